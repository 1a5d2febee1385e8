/- The document's own reader of layer 2: a value, by its kind: a blob. No statement is proved here. -/
import Derived.Test.YtjfgmcmnpekahaaDoorBRv2
namespace Go.Proofs.YtjfgmcmnpekahaaDoor
open Go.RowKit
set_option maxRecDepth 100000

theorem blobF_eq {R : List Int} {p : Int} {N : Nat} {x : Int} (hl : 5 ≤ R.length) (hN : num (R.take 4) = (N : Int)) (hr : 5 + N ≤ R.length) (hx : R[4]? = some x) : blobF R p = if x = 0 then .ok (strOfNums ((R.drop 5).take N)) (5 + N) else .bad 24 (p + 4) := by
  have hxR : R.getD 4 0 = x := by rw [List.getD_eq_getElem?_getD, hx]; rfl
  rw [blobF, if_neg (by omega), hN, if_neg (by omega), hxR, Int.toNat_natCast]
set_option maxHeartbeats 8000000 in
theorem rvalue_7 {g : Nat} {K : Byt} {i last : Nat} {deep : Int} (n : Nat) (w : World) (h : RCur w g K i 0 0) (hi : i ≤ last) (hll : last < K.bs.length) {B : Nat} (hE : Env2 w B) (hgB : B ≤ g) : Calls Tryd.prog 59 #[.pointer (some ⟨g, 0, none⟩), .int .i64 7, .int .i64 deep, .int .i64 last] w (RReads (valF (n + 1) 7 deep (K.rest i last) i) g K i w) := by
  have hl : last ≤ K.bs.length := by omega
  have HLL := Lib.hid hll
  clear hll
  obtain ⟨res, hres⟩ : ∃ res, res = valF (n + 1) 7 deep (K.rest i last) i := ⟨_, rfl⟩
  rw [← hres]
  rw [val_blob] at hres
  have HRES := Lib.hid hres
  clear hres
  have HC := Lib.hid h
  have HE := Lib.hid hE
  have hg := lt_of_block h.row
  have hcap := h.cap
  have hfar := h.far
  have HR := Lib.hid (And.intro (rest_isB (i := i) (r := last) h.byte) (rest_len (i := i) hl))
  have HLE := Lib.hid (fun W => (least_any 7 (by omega) (by omega) W).mono fun e w' h => (⟨h.1, h.2⟩ : e = .returned (.int .i64 5) ∧ Below W.heap.size W w'))
  clear h hE
  go_enter Tryd.func59, Tryd.ntmps59
  have b1 := below1 w (.cells #[.int .i64 0, .int .i64 0, .string ⟨#[]⟩, .slice none 0 0, .slice none 0 0] 25)
  have z0 := heap_alloc_new w (.cells #[.int .i64 0, .int .i64 0, .string ⟨#[]⟩, .slice none 0 0, .slice none 0 0] 25)
  have HU := Lib.hid (And.intro (HC.out.then_ b1) (And.intro (HE.out.then_ b1) (And.intro z0 (Only.of_below (S := [g]) b1))))
  have hc := row_cells HU.out.1.row
  clear b1 z0
  go_wp2_with fail
  generalize w.alloc (.cells #[.int .i64 0, .int .i64 0, .string ⟨#[]⟩, .slice none 0 0, .slice none 0 0] 25) = U at HU hc ⊢
  refine (HLE.out _).mono ?_
  rintro e w1 ⟨rfl, b1⟩
  have H1 := Lib.hid (And.intro (HU.out.1.then_ b1) (And.intro (HU.out.2.1.then_ b1) (And.intro (row_then HU.out.2.2.1 b1) (HU.out.2.2.2.trans (Only.of_below b1)))))
  have c1 := row_cells H1.out.1.row
  have f1 := rowf H1.out.1.row
  have x1 := row_cells H1.out.2.2.1
  have y1 := rowf H1.out.2.2.1
  have hrest := fun W (hW : Only [g] w1 W) => keep_row hW H1.out.2.2.1 (by simp; omega)
  have HW := Lib.hid (fun W (hW : Only [g] w1 W) => row_cells (hrest W hW))
  have HY := Lib.hid (fun W (hW : Only [g] w1 W) => rowf (hrest W hW))
  have HX := Lib.hid hrest
  clear b1 hrest hc
  by_cases hs : (last : Int) - i < 5
  · have HF := Lib.hid (show res = .bad 20 i by rw [HRES.out, blobF, if_pos (by rw [HR.out.2]; omega)])
    go_wp2_with fail
    refine (wrong_any 20 i w1 H1.out.1).mono ?_
    rintro e w2 ⟨rfl, hc2, ho2⟩
    have x2 := HW.out _ ho2
    have y2 := HY.out _ ho2
    clear c1 f1 x1 y1
    go_wp2_with fail
    have cp := row_cells (put5row (HX.out _ ho2) (.int .i64 0) (.int .i64 0) (.string ⟨#[]⟩) (.slice none 0 0) (.slice none 0 0))
    refine bodyPost_ret (v := .agg #[.int .i64 0, .int .i64 0, .string ⟨#[]⟩, .slice none 0 0, .slice none 0 0]) (by simp [results, Tryd.results59, go_sem, cp]) rfl ?_
    have oW := put5only (w2) w.heap.size (.int .i64 0) (.int .i64 0) (.string ⟨#[]⟩) (.slice none 0 0) (.slice none 0 0)
    exact .bad (t := T.mk 0 0 ⟨#[]⟩ none 0 [] none 0 []) HF.out (by decide) (HC.out.past hc2 oW (by simp)) ((H1.out.2.2.2.trans ho2).then_ oW (fun x hx => .inr (by simp at hx; omega)))
  obtain ⟨N, hN, -, hN4⟩ := num_small HR.out.1 (k := 4) (by omega) (by rw [HR.out.2]; omega)
  have HN := Lib.hid (And.intro hN hN4)
  have hf := rest_four (K := K) (i := i) (r := last) (by omega)
  have HG := Lib.hid (get4_any w1 H1.out.1 (by omega))
  rw [hf, hN] at HG
  clear hf hN hN4
  go_wp2_with fail
  refine HG.out.mono ?_
  rintro e w2 ⟨rfl, b2⟩
  have H2 := Lib.hid (And.intro (H1.out.1.then_ b2) (Only.of_below (S := [g]) b2))
  have c2 := row_cells H2.out.1.row
  have f2 := rowf H2.out.1.row
  have x2 := HW.out _ H2.out.2
  have y2 := HY.out _ H2.out.2
  clear b2 c1 f1 x1 y1
  by_cases hlt : (last : Int) - i - 5 < N
  · have HF := Lib.hid (show res = .bad 20 i by rw [HRES.out, blobF, if_neg (by rw [HR.out.2]; omega), HN.out.1, if_pos (by rw [HR.out.2]; omega)])
    go_wp2_with fail
    refine (wrong_any 20 i w2 H2.out.1).mono ?_
    rintro e w3 ⟨rfl, hc3, ho3⟩
    have ho13 := H2.out.2.trans ho3
    have x3 := HW.out _ ho13
    have y3 := HY.out _ ho13
    clear c2 f2 x2 y2
    go_wp2_with fail
    have cp := row_cells (put5row (HX.out _ ho13) (.int .i64 0) (.int .i64 0) (.string ⟨#[]⟩) (.slice none 0 0) (.slice none 0 0))
    refine bodyPost_ret (v := .agg #[.int .i64 0, .int .i64 0, .string ⟨#[]⟩, .slice none 0 0, .slice none 0 0]) (by simp [results, Tryd.results59, go_sem, cp]) rfl ?_
    have oW := put5only (w3) w.heap.size (.int .i64 0) (.int .i64 0) (.string ⟨#[]⟩) (.slice none 0 0) (.slice none 0 0)
    exact .bad (t := T.mk 0 0 ⟨#[]⟩ none 0 [] none 0 []) HF.out (by decide) (HC.out.past hc3 oW (by simp)) ((H1.out.2.2.2.trans ho13).then_ oW (fun x hx => .inr (by simp at hx; omega)))
  have hge : (N : Int) ≤ (last : Int) - i - 5 := by omega
  obtain ⟨b, o, ha⟩ := H1.out.1.some_ (by omega)
  have HA := Lib.hid ha
  obtain ⟨x, hx⟩ : ∃ x, (K.rest i last)[4]? = some x := ⟨_, List.getElem?_eq_getElem (by rw [HR.out.2]; omega)⟩
  have hxi : K.bs[i + 4]? = some x := by rw [rest_get (by omega)] at hx; exact hx
  obtain ⟨x0, x255⟩ := HR.out.1 x (List.mem_of_getElem? hx)
  have hsl : ((K.rest i last).drop 5).take N = K.rest (i + 5) (i + 5 + N) := by
    rw [rest_drop, rest_take (by omega)]
  have HF := Lib.hid (show res = if x = 0 then .ok (.mk 7 0 (strOfNums (K.rest (i + 5) (i + 5 + N))) [] []) (5 + N) else .bad 24 ((i : Int) + 4) by
    rw [HRES.out, blobF_eq (by rw [HR.out.2]; omega) HN.out.1 (by rw [HR.out.2]; omega) hx, hsl]
    by_cases h : x = 0
    · rw [if_pos h, if_pos h]
    · rw [if_neg h, if_neg h])
  have hsz : (strOfNums (K.rest (i + 5) (i + 5 + N))).size = N := by rw [nums_size, rest_len (by omega)]; omega
  have KD := Lib.hid (fun W (fc fq : Int) (j : Nat) (hW : RCur W g K j fc fq) => hW.str HA.out (j := i + 5) (m := N) (c := K.c - (i + 5)) (by omega))
  have KS := Lib.hid (fun W => slice_bytes W b o K.c K.bs.length ((i : Int) + 5) ((i : Int) + 5 + N) (i + 5) N (by omega) (by omega) (by have := HLL.out; omega) (by have := HLL.out; omega))
  have KC := Lib.hid (fun W (fc fq : Int) (j : Nat) (hW : RCur W g K j fc fq) => (show W.cell? ⟨g, 0, none⟩ = some (.slice (some ⟨b, o, none⟩) K.bs.length K.c) by
    have := row_cells hW.row 0
    rw [HA.out] at this
    exact this))
  generalize strOfNums (K.rest (i + 5) (i + 5 + N)) = s at KD HF hsz
  have hc20 := KC.out _ _ _ _ H2.out.1
  have hc21 := c2 1
  have hcx2 := H2.out.1.byte_at HA.out hxi
  have HS := Lib.hid (And.intro hsz hxi)
  clear c2 ha hx hxi hsl hsz hlt
  by_cases hx0 : x = 0
  · subst hx0
    have HF2 := Lib.hid (show res = .ok (.mk 7 0 s [] []) (5 + N) by rw [HF.out, if_pos rfl])
    have hcA := H2.out.1.at2 (i + (5 + N)) ((i : Int) + 5 + N) (by omega)
    have hoA : Only [g] w1 (w2.setCell ⟨g, 1, none⟩ (.int .i64 ((i : Int) + 5 + N))) := H2.out.2.setCell (p := ⟨g, 1, none⟩) (.inl (by simp)) _
    have ks := KS.out (w2.setCell ⟨g, 1, none⟩ (.int .i64 ((i : Int) + 5 + N)))
    have kd := KD.out _ _ _ _ hcA
    have xA := HW.out _ hoA
    have yA := HY.out _ hoA
    have hcA0 := KC.out _ _ _ _ hcA
    have HAA := Lib.hid (And.intro hcA hoA)
    clear hcA hoA
    go_wp2_with fail
    have cp := row_cells (put5row (HX.out _ HAA.out.2) (.int .i64 7) (.int .i64 0) (.string s) (.slice none 0 0) (.slice none 0 0))
    refine bodyPost_ret (v := .agg #[.int .i64 7, .int .i64 0, .string s, .slice none 0 0, .slice none 0 0]) (by simp [results, Tryd.results59, go_sem, cp]) rfl ?_
    have oW := put5only (w2.setCell ⟨g, 1, none⟩ (.int .i64 ((i : Int) + 5 + N))) w.heap.size (.int .i64 7) (.int .i64 0) (.string s) (.slice none 0 0) (.slice none 0 0)
    exact .ok (t := T.mk 7 0 s none 0 [] none 0 []) HF2.out (by rw [T.val_mk]; rfl) (leaf_own _ _ (by unfold okInt; omega) (by unfold okInt; omega) (by have := HS.out.1; unfold okLen; omega)) (HC.out.past HAA.out.1 oW (by simp)) ((H1.out.2.2.2.trans HAA.out.2).then_ oW (fun x hx => .inr (by simp at hx; omega)))
  · have HF2 := Lib.hid (show res = .bad 24 ((i : Int) + 4) by rw [HF.out, if_neg hx0])
    have hxb : (x != 0) = true := by simpa using hx0
    clear hx0
    go_wp2_with fail
    refine (wrong_any 24 ((i : Int) + 4) w2 H2.out.1).mono ?_
    rintro e w3 ⟨rfl, hc3, ho3⟩
    have ho13 := H2.out.2.trans ho3
    have x3 := HW.out _ ho13
    have y3 := HY.out _ ho13
    have hc30 := KC.out _ _ _ _ hc3
    have hc31 := row_cells hc3.row 1
    have f3 := rowf hc3.row
    have hcA := hc3.at2 (i + (5 + N)) ((i : Int) + 5 + N) (by omega)
    have hoA : Only [g] w1 (w3.setCell ⟨g, 1, none⟩ (.int .i64 ((i : Int) + 5 + N))) := ho13.setCell (p := ⟨g, 1, none⟩) (.inl (by simp)) _
    have ks := KS.out (w3.setCell ⟨g, 1, none⟩ (.int .i64 ((i : Int) + 5 + N)))
    have kd := KD.out _ _ _ _ hcA
    have xA := HW.out _ hoA
    have yA := HY.out _ hoA
    have hcA0 := KC.out _ _ _ _ hcA
    have HAA := Lib.hid (And.intro hcA hoA)
    clear hcA hoA hc3 ho3 ho13 hcx2 hc20 hc21 f2 x2 y2
    go_wp2_with fail
    have cp := row_cells (put5row (HX.out _ HAA.out.2) (.int .i64 7) (.int .i64 0) (.string s) (.slice none 0 0) (.slice none 0 0))
    refine bodyPost_ret (v := .agg #[.int .i64 7, .int .i64 0, .string s, .slice none 0 0, .slice none 0 0]) (by simp [results, Tryd.results59, go_sem, cp]) rfl ?_
    have oW := put5only (w3.setCell ⟨g, 1, none⟩ (.int .i64 ((i : Int) + 5 + N))) w.heap.size (.int .i64 7) (.int .i64 0) (.string s) (.slice none 0 0) (.slice none 0 0)
    exact .bad (t := T.mk 7 0 s none 0 [] none 0 []) HF2.out (by decide) (HC.out.past HAA.out.1 oW (by simp)) ((H1.out.2.2.2.trans HAA.out.2).then_ oW (fun x hx => .inr (by simp at hx; omega)))
end Go.Proofs.YtjfgmcmnpekahaaDoor
