/- The contract of the reader's document, over that of value. No statement is proved here. -/
import Derived.Test.YtjfgmcmnpekahaaDoorBLoop
namespace Go.Proofs.YtjfgmcmnpekahaaDoor
open Go.RowKit
set_option maxRecDepth 100000

set_option maxHeartbeats 8000000 in
theorem document_any (n : Nat) (hV : ValAt n) : DocAt (n + 1) := by
  intro w g K i r dp B h hd0 hd1 hE hgB hn
  have HC := Lib.hid h
  have HE := Lib.hid hE
  have hg := lt_of_block h.row
  have hfar := h.far
  have hroom := h.room
  have hle := h.le
  have hlen := h.len
  have HV := Lib.hid hV
  have HF := Lib.hid (And.intro hlen (And.intro hroom (And.intro hfar hle)))
  clear h hE hV hlen hroom hfar hle
  have hmm := @run_makeMap Tryd.prog
  go_enter Tryd.func46, Tryd.ntmps46
  go_wp2_with fail
  have b1 := below1 w (.cells #[.int .i64 0, .int .i64 0, .string ⟨#[]⟩, .slice none 0 0, .slice none 0 0] 25)
  have z0 := heap_alloc_new w (.cells #[.int .i64 0, .int .i64 0, .string ⟨#[]⟩, .slice none 0 0, .slice none 0 0] 25)
  generalize w.alloc (.cells #[.int .i64 0, .int .i64 0, .string ⟨#[]⟩, .slice none 0 0, .slice none 0 0] 25) = U0 at b1 z0 ⊢
  have oU0 : Only [g] w U0 := Only.of_below b1
  refine (open_any U0 (HC.out.then_ b1) hd0 hd1).mono ?_
  rintro e w1 ⟨ho, hcase⟩
  have HO := Lib.hid (oU0.trans ho)
  have HZ := Lib.hid (keep_row ho z0 (by simp; omega))
  have hs1 := lt_of_block HZ.out
  clear ho z0 oU0 b1
  rcases hcase with ⟨hd, rfl⟩ | ⟨hd, h4, rfl⟩ | ⟨hd, h4, h5, rfl⟩ | ⟨hd, h4, h5, h6, rfl⟩ | ⟨hd, N, hN, h5, h6, hNr, rfl, hc⟩
  · dsimp only [faultE]
    go_wp2_with fail
    try simp only [Exit.inBlock, Exit.then]
    exact ⟨rfl, .bad (docR_deep (by omega)) HO.out⟩
  · dsimp only [faultE]
    go_wp2_with fail
    try simp only [Exit.inBlock, Exit.then]
    exact ⟨rfl, .bad (docR_four (by omega) (by rw [HF.out.1]; exact h4)) HO.out⟩
  · dsimp only [faultE]
    go_wp2_with fail
    try simp only [Exit.inBlock, Exit.then]
    exact ⟨rfl, .bad (docR_long (by omega) (by rw [HF.out.1]; omega) h5) HO.out⟩
  · dsimp only [faultE]
    go_wp2_with fail
    try simp only [Exit.inBlock, Exit.then]
    exact ⟨rfl, .bad (docR_short (by omega) (by rw [HF.out.1]; omega) h5 (by rw [HF.out.1]; exact h6)) HO.out⟩
  · have hlast : i + N - 1 < K.bs.length := by have := HF.out.2; omega
    obtain ⟨z, hz⟩ : ∃ z, K.bs[i + N - 1]? = some z := ⟨_, List.getElem?_eq_getElem hlast⟩
    have HT := Lib.hid (docR_open (n := n) (list := false) (deep := dp + 1) (by omega) hN h5 h6 hNr HF.out.2.1 hz (by omega))
    have HZL := Lib.hid hz
    have HN := Lib.hid (And.intro h5 (And.intro h6 (And.intro hNr (And.intro hn hlast))))
    have HC1 := Lib.hid hc
    clear hN h5 h6 hNr hz hc hn hlast
    go_wp2_with fail
    clear hmm
    have b2 := below2 w1 (.cells #[.int .i64 5, .int .i64 0, .string ⟨#[]⟩, .slice none 0 0, .slice none 0 0] 25) (.map #[] 0)
    have v0 := heap_alloc2_old w1 (.cells #[.int .i64 5, .int .i64 0, .string ⟨#[]⟩, .slice none 0 0, .slice none 0 0] 25) (.map #[] 0)
    have m0 : ((w1.alloc (.cells #[.int .i64 5, .int .i64 0, .string ⟨#[]⟩, .slice none 0 0, .slice none 0 0] 25)).alloc (.map #[] 0)).ownsMap Tryd.prog 9 unitElem (w1.heap.size + 1) 0 (seen [] 0) := by
      have h := World.ownsMap_made (w1.alloc (.cells #[.int .i64 5, .int .i64 0, .string ⟨#[]⟩, .slice none 0 0, .slice none 0 0] 25)) Tryd.prog 9 (unitElem (H := Unit))
      rw [World.size_alloc] at h
      exact h
    generalize hU : (w1.alloc (.cells #[.int .i64 5, .int .i64 0, .string ⟨#[]⟩, .slice none 0 0, .slice none 0 0] 25)).alloc (.map #[] 0) = U at b2 v0 m0 ⊢
    clear hU
    have HCU := Lib.hid (HC1.out.then_ b2)
    have hEU : Env2 U B := HE.out.only ((HO.out.then_ (Only.of_below b2 (S := [])) (by simp)) : Only [g] w U) (by simpa using hgB)
    have HEU := Lib.hid hEU
    have HU := Lib.hid (And.intro b2 v0)
    have HM0 := Lib.hid m0
    clear b2 v0 hEU m0
    refine (kind_any U HCU.out HN.out.2.2.2.2 HEU.out.codes).mono ?_
    rintro e w2 hk
    obtain ⟨ho2, ⟨k, rfl, hh⟩ | ⟨c, q, rfl, hq⟩⟩ := kind_here hk HZL.out
    · have HH := Lib.hid hh
      have H0 := Lib.hid (show DocLoop n g K i r N dp z w w1.heap.size w2 none 0 [] (i + 4) from
        ⟨(HO.out.then_ (Only.of_below HU.out.1 (S := [])) (by simp)).trans ho2, keep_row ho2 (row_then HZ.out HU.out.1) (by simp; omega), keep_row ho2 HU.out.2 (by simp; omega), map_only HM0.out ho2 (by simp; omega), leaf_own _ _ (by unfold okInt; omega) (by unfold okInt; omega) (by simp [okLen, ByteArray.size]), hg, hs1, by simp, by have := HN.out; omega, HN.out.2.1, HT.out⟩)
      clear hh hk ho2
      go_wp2_with fail
      go_loopw [6, 7] (fun kd _ wr => ∃ k a c ts j, kd = .int .i64 k ∧ DocLoop n g K i r N dp z w w1.heap.size wr a c ts j ∧ Here g K (i + N - 1) (dp + 1) z wr k j) (fun _ _ wr => K.bs.length + 1 - atOf wr g)
      case atStart => exact ⟨k, none, 0, [], i + 4, rfl, H0.out, HH.out⟩
      case round =>
        clear H0 HH HU HEU HCU HC1 HM0
        obtain ⟨k, a, c, ts, j, rfl, hL, hh⟩ := hrel
        have HL := Lib.hid hL
        rcases hh with ⟨rfl, rfl, rfl, hc⟩ | ⟨x, hx, hx0, hkx, hk0, hj, hc⟩
        · have HCr := Lib.hid hc
          have HR := Lib.hid HF.out.2.1
          clear hL hc
          go_wp2_with fail
          refine (leave_any r wr HCr.out (by have := HN.out; omega) HR.out (by omega) (by omega)).mono ?_
          rintro e w3 ⟨rfl, hc3, ho3⟩
          have x1 := keep_row ho3 HL.out.box1 (by have := HL.out.low; have := HL.out.high; simp; omega)
          have x0 := keep_row ho3 HL.out.box0 (by have := HL.out.low; simp; omega)
          have c1 := row_cells x1
          have f0 := rowf x0
          have c0 := row_cells x0
          have HX := Lib.hid (And.intro x0 x1)
          have HC3 := Lib.hid hc3
          have HO3 := Lib.hid ho3
          clear x0 x1 hc3 ho3
          go_wp2_with fail
          have cp := row_cells (put5row HX.out.1 (.int .i64 5) (.int .i64 0) (.string ⟨#[]⟩) (.slice none 0 0) (.slice a ts.length c))
          refine bodyPost_ret (v := .agg #[.int .i64 5, .int .i64 0, .string ⟨#[]⟩, .slice none 0 0, .slice a ts.length c]) (by simp [results, Tryd.results46, go_sem, cp]) rfl ?_
          have oW := put5only w3 w.heap.size (.int .i64 5) (.int .i64 0) (.string ⟨#[]⟩) (.slice none 0 0) (.slice a ts.length c)
          have hlow := HL.out.low
          have hhigh := HL.out.high
          have hcur := HC.out.past HC3.out oW (by simp)
          rw [show i + N - 1 + 1 = i + N by have := HN.out; omega, show dp + 1 - 1 = dp by omega] at hcur
          refine .ok (t := T.mk 5 0 ⟨#[]⟩ none 0 [] a c ts) (v := docO false (ts.map fun f => (f.1, f.2.val))) (m := N) ?_ ?_ (((HL.out.own.keep HO3.out (by simp; omega) (Nat.le_refl _)).keep oW (by simp; omega) (by omega))) hcur ?_
          · rw [HL.out.tail, tail_end, if_pos rfl]; rfl
          · rw [T.val_mk, docO, if_neg (by decide)]; rfl
          · exact (HL.out.only.trans HO3.out).then_ oW (fun x hx => .inr (by simp at hx; omega))
        · have hkb : (k != 0) = true := by simpa using hk0
          have HX := Lib.hid (And.intro hx (And.intro hx0 (And.intro hkx (And.intro hk0 hj))))
          have HCr := Lib.hid hc
          have c1 := row_cells hL.box1
          have HP := Lib.hid (newName_any (K := K) (g := g) ts (w1.heap.size + 1) ts.length wr hc HN.out.2.2.2.2 hL.map (by have := hL.low; have := hL.high; omega) (B := B) (HE.out.only hL.only (by simpa using hgB)) hgB)
          clear hL hx hx0 hkx hk0 hj hc
          go_wp2_with fail
          refine HP.out.mono ?_
          rintro e w2 ⟨ho2, hcase⟩
          rcases hcase with ⟨hz0, rfl⟩ | ⟨l, hzl, ⟨hm, rfl⟩ | ⟨hm, rfl, hc2⟩⟩
          · dsimp only [faultE]
            clear c1
            go_wp2_with fail
            try simp only [Exit.inBlock, Exit.then]
            obtain ⟨hx, hx0, hkx, hk0, hj⟩ := HX.out
            exact ⟨rfl, .bad (by rw [HL.out.tail, tail_none hj hx hx0 (by rw [hkx]; exact hk0) hz0]; rfl) (HL.out.only.trans ho2)⟩
          · dsimp only [faultE]
            clear c1
            go_wp2_with fail
            try simp only [Exit.inBlock, Exit.then]
            obtain ⟨hx, hx0, hkx, hk0, hj⟩ := HX.out
            exact ⟨rfl, .bad (by rw [HL.out.tail, tail_name hj hx hx0 (by rw [hkx]; exact hk0) hzl hm]; rfl) (HL.out.only.trans ho2)⟩
          · have htl : tailR false (dp + 1) K j (i + N - 1) z (ts.map fun f => (f.1, f.2.val)) = _ := tail_val HX.out.2.2.2.2 HX.out.1 HX.out.2.1 (by rw [HX.out.2.2.1]; exact HX.out.2.2.2.1) hzl hm
            rw [HX.out.2.2.1] at htl
            have hlB := toZ_byte HCr.out.restB hzl
            obtain ⟨-, -, z3⟩ := toZ_some hzl
            rw [HCr.out.len] at z3
            have hs : okLen (strOfNums l).size := by rw [str_size hlB]; have := HN.out; have := HF.out; unfold okLen; omega
            have hkey : keyOf Tryd.prog 9 (.string (strOfNums l)) = some (.string (strOfNums l).data.toList) := WideMaps.keyOf_string_mk Tryd.underlying9 (by unfold maxLen; unfold okLen at hs; omega)
            have hm2 := map_only HL.out.map ho2 (by have := HL.out.low; have := HL.out.high; simp; omega)
            have hb1 : ts.length + 1 ≤ 65536 := by have := HL.out.many; have := HL.out.le; have := HN.out; have := HX.out.2.2.2.2; omega
            have HTL := Lib.hid htl
            have HS := Lib.hid hs
            have HO2 := Lib.hid ho2
            have HC2 := Lib.hid hc2
            clear htl hlB z3 hs hzl hm hc2 ho2 c1
            generalize strOfNums l = s at *
            go_wp2_with (first
              | (at_mapUpdate; refine wpList_mapUpdate_own _ rfl _ _ _ 87 rfl 9 89 law_string Tryd.underlying87 (unitElem (H := Unit)) (w1.heap.size + 1) ts.length _ rfl hm2 (by unfold maxLen; omega) _ _ _ rfl rfl hkey _ [] unitElem_mk ?_; intro w5 hown5 hgrow5))
            have ho5 : Only [w1.heap.size + 1] w2 w5 := Only.of_grown hgrow5
            have HC5 := Lib.hid (HC.out.past HC2.out ho5 (by have := HL.out.high; simp; omega))
            have hE5 : Env2 w5 B := HE.out.only ((HL.out.only.trans HO2.out).then_ ho5 (by have := HL.out.high; simp; omega)) (by simpa using hgB)
            have hvv := HV.out w5.drew g K (j + 1 + l.length + 1) (i + N - 1) (dp + 1) B (kindOf x) HC5.out.drew HN.out.2.2.2.2 (by have := kindOf_range x; have := HX.out.2.2.1; have := HX.out.2.2.2.1; omega) (kindOf_range x).2 (by omega) (by omega) hE5.drew hgB (by have := HL.out.many; have := HN.out; omega)
            rw [valR_eq (by rw [HC5.out.len]; have := HL.out.many; have := HN.out; omega), HX.out.2.2.1] at hvv
            have c2 := row_cells (keep_row ho5 (keep_row HO2.out HL.out.box1 (by have := HL.out.low; have := HL.out.high; simp; omega)) (by simp))
            have hsz1 := Nat.le_trans (lt_of_block HL.out.box1) (Nat.le_trans HO2.out.size ho5.size)
            have hsz2 := Nat.lt_of_lt_of_le (Nat.lt_of_lt_of_le HL.out.map.lt HO2.out.size) ho5.size
            have HO5 := Lib.hid ((subS HO2.out (S' := [g, w1.heap.size + 1]) (by simp)).trans (subS ho5 (by simp)))
            have HOW := Lib.hid ((HL.out.only.trans HO2.out).then_ ho5 (by have := HL.out.high; simp; omega))
            have HG5 := Lib.hid (And.intro hgrow5 hown5)
            clear hm2 hkey ho5 hE5 hgrow5 hown5
            rcases hR : valR k (dp + 1) (K.rest (j + 1 + l.length + 1) (i + N - 1)) ((j + 1 + l.length + 1 : Nat) : Int) with ⟨c', q⟩ | ⟨v, m⟩
            · rw [hR] at hvv
              have HVV := Lib.hid hvv
              have HRR := Lib.hid hR
              clear hvv hR
              go_wp2_with fail
              go_region_dies
              all_goals
                refine HVV.out.mono ?_
                rintro e w3 ⟨ho3', rfl⟩
                have ho3 := drop_drewO ho3'
                dsimp only [faultE]
                try simp only [Exit.inBlock, Exit.then]
                exact ⟨rfl, .bad (by rw [HL.out.tail, HTL.out, HRR.out]; rfl) (HOW.out.trans ho3)⟩
            · rw [hR] at hvv
              have HVV := Lib.hid hvv
              have HRR := Lib.hid hR
              obtain ⟨i1, hi1, hy0, hy1, hy2⟩ := info_parts info_field
              have I1 := Lib.hid (And.intro hi1 (And.intro hy0 (And.intro hy1 hy2)))
              clear hvv hR hi1 hy0 hy1 hy2
              go_wp2_with fail
              go_region_law (first
                | (refine step_call rfl 63 #[.pointer (some ⟨g, 0, none⟩), .int .i64 k] (by go_simp) (HVV.out.mono ?_); rintro e w3 ⟨ho3', ⟨ky, ny, sy, lay, lcy, ly, day, dcy, dy⟩, rfl, hvy, hoy, hcy⟩; dsimp only [T.arg, T.cells]; have ho3 := drop_drewO ho3'; have HO3 := Lib.hid ho3; have HVY := Lib.hid hvy; have HOY := Lib.hid hoy; have HCY := Lib.hid hcy; have x3 := keep_row (HO5.out.trans (subS ho3 (by simp))) HL.out.box1 (by have := HL.out.low; have := HL.out.high; simp; omega); have q1 := row_cells x3; have q1a := fun X => row_cells (row_then x3 (below1 w3 X)); have hsz3 := ho3.size; clear ho3' ho3 hvy hoy hcy x3; refine ⟨_, rfl, ?_⟩)
                | (refine step_append_lies _ rfl (.tmp 25) (.tmp 31) 23 rfl (w1.heap.size + 2) 51 i1 _ 6 96 Tryd.underlying23 I1.out.1 I1.out.2.1 I1.out.2.2.1 I1.out.2.2.2 rfl (by decide) (.slice a ts.length c) ts.length (ts.flatMap fcells) (by simp [Act.eval]) (HL.out.row ((HO5.out.trans (subS HO3.out (by simp))).trans (Only.of_below (below1 _ _))) (by have := HL.out.low; have := HL.out.high; simp; omega)) ⟨w3.heap.size, 0, none⟩ 1 1 [.string s, .int .i64 ky, .int .i64 ny, .string sy, .slice lay ly.length lcy, .slice day dy.length dcy] (by simp [Act.eval]) rfl (news_at _ _ _ _ (by simp)) (by simp [Value.oneCell']) (by decide) (by unfold maxLen; omega) (by omega) (by simp; omega) _ rfl ?_; intro ga cap w4 hrow hgrow hat hlt; have x4 := HL.out.kept (HO5.out.trans (subS HO3.out (by simp))) hgrow; have r4 := row_cells x4; have f4 := rowf x4; have G4 := Lib.hid (HL.out.step HO2.out HG5.out.1 HG5.out.2 HOY.out HO3.out HS.out hrow hgrow hat (j' := j + 1 + l.length + 1 + m) (by omega) HCY.out.le (by rw [HTL.out, HRR.out, HVY.out])); clear hrow hgrow hat x4))
              all_goals
                obtain ⟨hL5, S, oS, hS⟩ := G4.out
                generalize w4.setCell ⟨w1.heap.size, 4, none⟩ (.slice (some ⟨ga, 0, none⟩) (ts.length + 1) cap) = W5 at hL5 oS ⊢
                have HC6 := Lib.hid (HC.out.past HCY.out oS hS)
                have HL5 := Lib.hid hL5
                clear G4 r4 f4 q1 q1a hL5 oS hS hsz3
                try simp only [List.getElem_toArray, List.getElem_cons_succ, List.getElem_cons_zero, Act.put, List.setIfInBounds_toArray, List.set_cons_succ, List.set_cons_zero]
                go_wp2_with fail
                refine (kind_any W5 HC6.out HN.out.2.2.2.2 (HE.out.only HL5.out.only (by simpa using hgB)).codes).mono ?_
                rintro e w6 hk
                obtain ⟨ho6, ⟨k', rfl, hh⟩ | ⟨c', q, rfl, hq⟩⟩ := kind_here hk HZL.out
                · have HL6 := Lib.hid (HL5.out.only6 ho6)
                  have HH := Lib.hid hh
                  clear hk ho6 hh
                  go_wp2_with fail
                  go_roundw
                  case rel => exact ⟨k', _, _, _, _, rfl, HL6.out, HH.out⟩
                  case measure =>
                    have h1 := HH.out.at
                    have h2 := HCr.out.atOf
                    have h3 := HCr.out.le
                    have h4 := HN.out.2.2.2.2
                    omega
                · dsimp only [faultE]
                  go_wp2_with fail
                  try simp only [Exit.inBlock, Exit.then]
                  exact ⟨rfl, .bad (by rw [HL5.out.tail, hq]; rfl) (HL5.out.only.trans ho6)⟩
    · dsimp only [faultE]
      go_wp2_with fail
      try simp only [Exit.inBlock, Exit.then]
      exact ⟨rfl, .bad (by rw [HT.out, hq]; rfl) ((HO.out.then_ (Only.of_below HU.out.1 (S := [])) (by simp)).trans ho2)⟩
end Go.Proofs.YtjfgmcmnpekahaaDoor
