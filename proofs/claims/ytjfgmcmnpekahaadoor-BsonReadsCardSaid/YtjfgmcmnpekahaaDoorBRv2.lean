/- The document's own reader of layer 2: a value, by its kind: an id, a flag, a text, a blob. No statement is proved here. -/
import Derived.Test.YtjfgmcmnpekahaaDoorBRv
namespace Go.Proofs.YtjfgmcmnpekahaaDoor
open Go.RowKit
set_option maxRecDepth 100000

theorem slice_bytes (w : World) (b o c len : Nat) (l h : Int) (i m : Nat) (hl : l = i) (hh : h = ((i + m : Nat) : Int)) (hc : i + m ≤ c) (hne : c ≠ i) :
    (Instr.slice 28 (.slice (some ⟨b, o, none⟩) len c) (some (.int .i64 l)) (some (.int .i64 h)) none).run Tryd.prog w = .ok (.slice (some ⟨b, o + i, none⟩) m (c - i)) w := by
  subst hl hh
  rw [run_slice_lh w 28 _ _ _ (by kernel_rfl) .i64 .i64 _ _ (by omega) (by omega) (by omega)]
  rw [show sizeOf (Tryd.prog.elem 28) = sizeOf 5 from rfl]
  have e1 : ((i + m : Nat) : Int).toNat = i + m := by omega
  have e2 : (i : Int).toNat = i := by omega
  have e3 : i + m - i = m := by omega
  simp [go_sem, sliced, hne, e3, -Int.natCast_add, e1, e2]
theorem RCur.str {w : World} {g : Nat} {K : Byt} {i : Nat} {fc fq : Int} (h : RCur w g K i fc fq) {b o : Nat} (ha : K.a = some ⟨b, o, none⟩) {j m c : Nat} (hs : j + m ≤ K.bs.length) : (convert 28 9 (.slice (some ⟨b, o + j, none⟩) m c)).run Tryd.prog w = .ok (.string (strOfNums (K.rest j (j + m)))) w :=
  run_str w _ m _ _ (by rw [rest_len (by omega)]; omega) (h.slice ha (by omega)) (fun h => by cases h)
set_option maxHeartbeats 8000000 in
theorem rvalue_8 {g : Nat} {K : Byt} {i last : Nat} {deep : Int} (n : Nat) (w : World) (h : RCur w g K i 0 0) (hi : i ≤ last) (hl : last ≤ K.bs.length) {B : Nat} (hE : Env2 w B) (hgB : B ≤ g) : Calls Tryd.prog 59 #[.pointer (some ⟨g, 0, none⟩), .int .i64 8, .int .i64 deep, .int .i64 last] w (RReads (valF (n + 1) 8 deep (K.rest i last) i) g K i w) := by
  obtain ⟨res, hres⟩ : ∃ res, res = valF (n + 1) 8 deep (K.rest i last) i := ⟨_, rfl⟩
  rw [← hres]
  rw [val_id] at hres
  have HRES := Lib.hid hres
  clear hres
  have HC := Lib.hid h
  have HE := Lib.hid hE
  have hg := lt_of_block h.row
  have hcap := h.cap
  have hfar := h.far
  have HR := Lib.hid (And.intro (rest_isB (i := i) (r := last) h.byte) (rest_len (i := i) hl))
  have HLE := Lib.hid (fun W => (least_any 8 (by omega) (by omega) W).mono fun e w' h => (⟨h.1, h.2⟩ : e = .returned (.int .i64 12) ∧ Below W.heap.size W w'))
  clear h hE
  go_enter Tryd.func59, Tryd.ntmps59
  have b1 := below1 w (.cells #[.int .i64 0, .int .i64 0, .string ⟨#[]⟩, .slice none 0 0, .slice none 0 0] 25)
  have z0 := heap_alloc_new w (.cells #[.int .i64 0, .int .i64 0, .string ⟨#[]⟩, .slice none 0 0, .slice none 0 0] 25)
  have HU := Lib.hid (And.intro (HC.out.then_ b1) (And.intro (HE.out.then_ b1) (And.intro z0 (Only.of_below (S := [g]) b1))))
  have hc := row_cells HU.out.1.row
  clear b1 z0
  go_wp2_with fail
  generalize w.alloc (.cells #[.int .i64 0, .int .i64 0, .string ⟨#[]⟩, .slice none 0 0, .slice none 0 0] 25) = U at HU hc ⊢
  refine (HLE.out _).mono ?_
  rintro e w1 ⟨rfl, b1⟩
  have H1 := Lib.hid (And.intro (HU.out.1.then_ b1) (And.intro (HU.out.2.1.then_ b1) (And.intro (row_then HU.out.2.2.1 b1) (HU.out.2.2.2.trans (Only.of_below b1)))))
  have c1 := row_cells H1.out.1.row
  have f1 := rowf H1.out.1.row
  have x1 := row_cells H1.out.2.2.1
  have y1 := rowf H1.out.2.2.1
  have hrest := fun W (hW : Only [g] w1 W) => keep_row hW H1.out.2.2.1 (by simp; omega)
  have HW := Lib.hid (fun W (hW : Only [g] w1 W) => row_cells (hrest W hW))
  have HY := Lib.hid (fun W (hW : Only [g] w1 W) => rowf (hrest W hW))
  have HX := Lib.hid hrest
  clear b1 hrest hc
  by_cases hs : (last : Int) - i < 12
  · have HF := Lib.hid (show res = .bad 20 i by rw [HRES.out, if_pos (by rw [HR.out.2]; omega)])
    go_wp2_with fail
    refine (wrong_any 20 i w1 H1.out.1).mono ?_
    rintro e w2 ⟨rfl, hc2, ho2⟩
    have x2 := HW.out _ ho2
    have y2 := HY.out _ ho2
    clear c1 f1 x1 y1
    go_wp2_with fail
    have cp := row_cells (put5row (HX.out _ ho2) (.int .i64 0) (.int .i64 0) (.string ⟨#[]⟩) (.slice none 0 0) (.slice none 0 0))
    refine bodyPost_ret (v := .agg #[.int .i64 0, .int .i64 0, .string ⟨#[]⟩, .slice none 0 0, .slice none 0 0]) (by simp [results, Tryd.results59, go_sem, cp]) rfl ?_
    have oW := put5only (w2) w.heap.size (.int .i64 0) (.int .i64 0) (.string ⟨#[]⟩) (.slice none 0 0) (.slice none 0 0)
    exact .bad (t := T.mk 0 0 ⟨#[]⟩ none 0 [] none 0 []) HF.out (by decide) (HC.out.past hc2 oW (by simp)) ((H1.out.2.2.2.trans ho2).then_ oW (fun x hx => .inr (by simp at hx; omega)))
  obtain ⟨b, o, ha⟩ := H1.out.1.some_ (by omega)
  have HA := Lib.hid ha
  have HF := Lib.hid (show res = .ok (.mk 8 0 (strOfNums (K.rest i (i + 12))) [] []) 12 by rw [HRES.out, if_neg (by rw [HR.out.2]; omega), rest_take (by omega)])
  have hc2 := H1.out.1.at2 (i + 12) ((i : Int) + 12) (by omega)
  have ho2 : Only [g] w1 (w1.setCell ⟨g, 1, none⟩ (.int .i64 ((i : Int) + 12))) := (Only.refl [g] w1).setCell (p := ⟨g, 1, none⟩) (.inl (by simp)) _
  have x2 := HW.out _ ho2
  have y2 := HY.out _ ho2
  have hc0 : w1.cell? ⟨g, 0, none⟩ = some (.slice (some ⟨b, o, none⟩) K.bs.length K.c) := by
    have := c1 0
    rw [ha] at this
    exact this
  have hc20 : (w1.setCell ⟨g, 1, none⟩ (.int .i64 ((i : Int) + 12))).cell? ⟨g, 0, none⟩ = some (.slice (some ⟨b, o, none⟩) K.bs.length K.c) := by
    have := row_cells hc2.row 0
    rw [ha] at this
    exact this
  have hc1 := c1 1
  have ks := slice_bytes (w1.setCell ⟨g, 1, none⟩ (.int .i64 ((i : Int) + 12))) b o K.c K.bs.length (i : Int) ((i : Int) + 12) i 12 rfl (by omega) (by omega) (by omega)
  have kd := hc2.str HA.out (j := i) (m := 12) (c := K.c - i) (by omega)
  have hsz : (strOfNums (K.rest i (i + 12))).size = 12 := by rw [nums_size, rest_len (by omega)]; omega
  have HS := Lib.hid (And.intro hsz (And.intro hc2 ho2))
  generalize strOfNums (K.rest i (i + 12)) = s at kd HF hsz HS
  clear c1 hc2 ho2 ha hsz
  go_wp2_with fail
  have cp := row_cells (put5row (HX.out _ HS.out.2.2) (.int .i64 8) (.int .i64 0) (.string s) (.slice none 0 0) (.slice none 0 0))
  refine bodyPost_ret (v := .agg #[.int .i64 8, .int .i64 0, .string s, .slice none 0 0, .slice none 0 0]) (by simp [results, Tryd.results59, go_sem, cp]) rfl ?_
  have oW := put5only (w1.setCell ⟨g, 1, none⟩ (.int .i64 ((i : Int) + 12))) w.heap.size (.int .i64 8) (.int .i64 0) (.string s) (.slice none 0 0) (.slice none 0 0)
  exact .ok (t := T.mk 8 0 s none 0 [] none 0 []) HF.out (by rw [T.val_mk]; rfl) (leaf_own _ _ (by unfold okInt; omega) (by unfold okInt; omega) (by have := HS.out.1; unfold okLen; omega)) (HC.out.past HS.out.2.1 oW (by simp)) ((H1.out.2.2.2.trans HS.out.2.2).then_ oW (fun x hx => .inr (by simp at hx; omega)))
set_option maxHeartbeats 8000000 in
theorem rvalue_9 {g : Nat} {K : Byt} {i last : Nat} {deep : Int} (n : Nat) (w : World) (h : RCur w g K i 0 0) (hi : i ≤ last) (hl : last ≤ K.bs.length) {B : Nat} (hE : Env2 w B) (hgB : B ≤ g) : Calls Tryd.prog 59 #[.pointer (some ⟨g, 0, none⟩), .int .i64 9, .int .i64 deep, .int .i64 last] w (RReads (valF (n + 1) 9 deep (K.rest i last) i) g K i w) := by
  obtain ⟨res, hres⟩ : ∃ res, res = valF (n + 1) 9 deep (K.rest i last) i := ⟨_, rfl⟩
  rw [← hres]
  rw [val_flag] at hres
  have HRES := Lib.hid hres
  clear hres
  have HC := Lib.hid h
  have HE := Lib.hid hE
  have hg := lt_of_block h.row
  have hcap := h.cap
  have hfar := h.far
  have HR := Lib.hid (And.intro (rest_isB (i := i) (r := last) h.byte) (rest_len (i := i) hl))
  have HLE := Lib.hid (fun W => (least_any 9 (by omega) (by omega) W).mono fun e w' h => (⟨h.1, h.2⟩ : e = .returned (.int .i64 1) ∧ Below W.heap.size W w'))
  clear h hE
  go_enter Tryd.func59, Tryd.ntmps59
  have b1 := below1 w (.cells #[.int .i64 0, .int .i64 0, .string ⟨#[]⟩, .slice none 0 0, .slice none 0 0] 25)
  have z0 := heap_alloc_new w (.cells #[.int .i64 0, .int .i64 0, .string ⟨#[]⟩, .slice none 0 0, .slice none 0 0] 25)
  have HU := Lib.hid (And.intro (HC.out.then_ b1) (And.intro (HE.out.then_ b1) (And.intro z0 (Only.of_below (S := [g]) b1))))
  have hc := row_cells HU.out.1.row
  clear b1 z0
  go_wp2_with fail
  generalize w.alloc (.cells #[.int .i64 0, .int .i64 0, .string ⟨#[]⟩, .slice none 0 0, .slice none 0 0] 25) = U at HU hc ⊢
  refine (HLE.out _).mono ?_
  rintro e w1 ⟨rfl, b1⟩
  have H1 := Lib.hid (And.intro (HU.out.1.then_ b1) (And.intro (HU.out.2.1.then_ b1) (And.intro (row_then HU.out.2.2.1 b1) (HU.out.2.2.2.trans (Only.of_below b1)))))
  have c1 := row_cells H1.out.1.row
  have f1 := rowf H1.out.1.row
  have x1 := row_cells H1.out.2.2.1
  have y1 := rowf H1.out.2.2.1
  have hrest := fun W (hW : Only [g] w1 W) => keep_row hW H1.out.2.2.1 (by simp; omega)
  have HW := Lib.hid (fun W (hW : Only [g] w1 W) => row_cells (hrest W hW))
  have HY := Lib.hid (fun W (hW : Only [g] w1 W) => rowf (hrest W hW))
  have HX := Lib.hid hrest
  clear b1 hrest hc
  by_cases hs : (last : Int) - i < 1
  · have HF := Lib.hid (show res = .bad 20 i by rw [HRES.out, flagF, if_pos (by rw [HR.out.2]; omega)])
    go_wp2_with fail
    refine (wrong_any 20 i w1 H1.out.1).mono ?_
    rintro e w2 ⟨rfl, hc2, ho2⟩
    have x2 := HW.out _ ho2
    have y2 := HY.out _ ho2
    clear c1 f1 x1 y1
    go_wp2_with fail
    have cp := row_cells (put5row (HX.out _ ho2) (.int .i64 0) (.int .i64 0) (.string ⟨#[]⟩) (.slice none 0 0) (.slice none 0 0))
    refine bodyPost_ret (v := .agg #[.int .i64 0, .int .i64 0, .string ⟨#[]⟩, .slice none 0 0, .slice none 0 0]) (by simp [results, Tryd.results59, go_sem, cp]) rfl ?_
    have oW := put5only (w2) w.heap.size (.int .i64 0) (.int .i64 0) (.string ⟨#[]⟩) (.slice none 0 0) (.slice none 0 0)
    exact .bad (t := T.mk 0 0 ⟨#[]⟩ none 0 [] none 0 []) HF.out (by decide) (HC.out.past hc2 oW (by simp)) ((H1.out.2.2.2.trans ho2).then_ oW (fun x hx => .inr (by simp at hx; omega)))
  obtain ⟨b, o, ha⟩ := H1.out.1.some_ (by omega)
  have HA := Lib.hid ha
  obtain ⟨x, hx⟩ : ∃ x, (K.rest i last)[0]? = some x := ⟨_, List.getElem?_eq_getElem (by rw [HR.out.2]; omega)⟩
  have hxi : K.bs[i]? = some x := by rw [rest_get (by omega)] at hx; exact hx
  obtain ⟨x0, x255⟩ := HR.out.1 x (List.mem_of_getElem? hx)
  have HF := Lib.hid (show res = if 1 < x then .bad 24 i else .ok (.mk 9 x ⟨#[]⟩ [] []) 1 by
    rw [HRES.out, flagF, if_neg (by rw [HR.out.2]; omega), List.getD_eq_getElem?_getD, hx]
    simp only [Option.getD_some]
    by_cases h : 1 < x
    · rw [if_pos h, if_pos h]
    · rw [if_neg h, if_neg h])
  have hc2 := H1.out.1.at2 (i + 1) ((i : Int) + 1) (by omega)
  have ho2 : Only [g] w1 (w1.setCell ⟨g, 1, none⟩ (.int .i64 ((i : Int) + 1))) := (Only.refl [g] w1).setCell (p := ⟨g, 1, none⟩) (.inl (by simp)) _
  have x2 := HW.out _ ho2
  have y2 := HY.out _ ho2
  have hc0 : w1.cell? ⟨g, 0, none⟩ = some (.slice (some ⟨b, o, none⟩) K.bs.length K.c) := by
    have := c1 0
    rw [ha] at this
    exact this
  have hc20 : (w1.setCell ⟨g, 1, none⟩ (.int .i64 ((i : Int) + 1))).cell? ⟨g, 0, none⟩ = some (.slice (some ⟨b, o, none⟩) K.bs.length K.c) := by
    have := row_cells hc2.row 0
    rw [ha] at this
    exact this
  have hcx2 := hc2.byte_at HA.out hxi
  have hcx1 := H1.out.1.byte_at HA.out hxi
  have hc1 := c1 1
  have HS := Lib.hid (And.intro hxi (And.intro hc2 ho2))
  clear c1 hc2 ho2 ha hx hxi
  by_cases hbig : 1 < x
  · have HF2 := Lib.hid (show res = .bad 24 i by rw [HF.out, if_pos hbig])
    go_wp2_with fail
    refine (wrong_any 24 i (w1.setCell ⟨g, 1, none⟩ (.int .i64 ((i : Int) + 1))) HS.out.2.1).mono ?_
    rintro e w3 ⟨rfl, hc3, ho3⟩
    have x3 := HW.out _ (HS.out.2.2.trans ho3)
    have y3 := HY.out _ (HS.out.2.2.trans ho3)
    have hc30 : w3.cell? ⟨g, 0, none⟩ = some (.slice (some ⟨b, o, none⟩) K.bs.length K.c) := by
      have := row_cells hc3.row 0
      rw [HA.out] at this
      exact this
    have hcx3 := hc3.byte_at HA.out HS.out.1
    have H3 := Lib.hid (And.intro hc3 (HS.out.2.2.trans ho3))
    clear hc3 ho3 x2 y2 hc0 hc20 hcx2 hcx1 hc1 x1 y1 f1
    go_wp2_with fail
    have cp := row_cells (put5row (HX.out _ H3.out.2) (.int .i64 9) (.int .i64 x) (.string ⟨#[]⟩) (.slice none 0 0) (.slice none 0 0))
    refine bodyPost_ret (v := .agg #[.int .i64 9, .int .i64 x, .string ⟨#[]⟩, .slice none 0 0, .slice none 0 0]) (by simp [results, Tryd.results59, go_sem, cp]) rfl ?_
    have oW := put5only (w3) w.heap.size (.int .i64 9) (.int .i64 x) (.string ⟨#[]⟩) (.slice none 0 0) (.slice none 0 0)
    exact .bad (t := T.mk 9 x ⟨#[]⟩ none 0 [] none 0 []) HF2.out (by decide) (HC.out.past H3.out.1 oW (by simp)) ((H1.out.2.2.2.trans H3.out.2).then_ oW (fun x hx => .inr (by simp at hx; omega)))
  · have HF2 := Lib.hid (show res = .ok (.mk 9 x ⟨#[]⟩ [] []) 1 by rw [HF.out, if_neg hbig])
    go_wp2_with fail
    have cp := row_cells (put5row (HX.out _ HS.out.2.2) (.int .i64 9) (.int .i64 x) (.string ⟨#[]⟩) (.slice none 0 0) (.slice none 0 0))
    refine bodyPost_ret (v := .agg #[.int .i64 9, .int .i64 x, .string ⟨#[]⟩, .slice none 0 0, .slice none 0 0]) (by simp [results, Tryd.results59, go_sem, cp]) rfl ?_
    have oW := put5only (w1.setCell ⟨g, 1, none⟩ (.int .i64 ((i : Int) + 1))) w.heap.size (.int .i64 9) (.int .i64 x) (.string ⟨#[]⟩) (.slice none 0 0) (.slice none 0 0)
    exact .ok (t := T.mk 9 x ⟨#[]⟩ none 0 [] none 0 []) HF2.out (by rw [T.val_mk]; rfl) (leaf_own _ _ (by unfold okInt; omega) (by unfold okInt; omega) (by simp [okLen, ByteArray.size])) (HC.out.past HS.out.2.1 oW (by simp)) ((H1.out.2.2.2.trans HS.out.2.2).then_ oW (fun x hx => .inr (by simp at hx; omega)))
set_option maxHeartbeats 8000000 in
theorem rvalue_4 {g : Nat} {K : Byt} {i last : Nat} {deep : Int} (n : Nat) (w : World) (h : RCur w g K i 0 0) (hi : i ≤ last) (hl : last ≤ K.bs.length) {B : Nat} (hE : Env2 w B) (hgB : B ≤ g) : Calls Tryd.prog 59 #[.pointer (some ⟨g, 0, none⟩), .int .i64 4, .int .i64 deep, .int .i64 last] w (RReads (valF (n + 1) 4 deep (K.rest i last) i) g K i w) := by
  obtain ⟨res, hres⟩ : ∃ res, res = valF (n + 1) 4 deep (K.rest i last) i := ⟨_, rfl⟩
  rw [← hres]
  have HR0 := Lib.hid hres
  rw [val_text] at hres
  have HRES := Lib.hid hres
  clear hres
  have HC := Lib.hid h
  have HE := Lib.hid hE
  have hg := lt_of_block h.row
  have hcap := h.cap
  have hfar := h.far
  have HR := Lib.hid (And.intro (rest_isB (i := i) (r := last) h.byte) (rest_len (i := i) hl))
  have HLE := Lib.hid (fun W => (least_any 4 (by omega) (by omega) W).mono fun e w' h => (⟨h.1, h.2⟩ : e = .returned (.int .i64 4) ∧ Below W.heap.size W w'))
  clear h hE
  go_enter Tryd.func59, Tryd.ntmps59
  have b1 := below1 w (.cells #[.int .i64 0, .int .i64 0, .string ⟨#[]⟩, .slice none 0 0, .slice none 0 0] 25)
  have z0 := heap_alloc_new w (.cells #[.int .i64 0, .int .i64 0, .string ⟨#[]⟩, .slice none 0 0, .slice none 0 0] 25)
  have HU := Lib.hid (And.intro (HC.out.then_ b1) (And.intro (HE.out.then_ b1) (And.intro z0 (Only.of_below (S := [g]) b1))))
  have hc := row_cells HU.out.1.row
  clear b1 z0
  go_wp2_with fail
  generalize w.alloc (.cells #[.int .i64 0, .int .i64 0, .string ⟨#[]⟩, .slice none 0 0, .slice none 0 0] 25) = U at HU hc ⊢
  refine (HLE.out _).mono ?_
  rintro e w1 ⟨rfl, b1⟩
  have H1 := Lib.hid (And.intro (HU.out.1.then_ b1) (And.intro (HU.out.2.1.then_ b1) (And.intro (row_then HU.out.2.2.1 b1) (HU.out.2.2.2.trans (Only.of_below b1)))))
  have c1 := row_cells H1.out.1.row
  have f1 := rowf H1.out.1.row
  have x1 := row_cells H1.out.2.2.1
  have y1 := rowf H1.out.2.2.1
  have hrest := fun W (hW : Only [g] w1 W) => keep_row hW H1.out.2.2.1 (by simp; omega)
  have HW := Lib.hid (fun W (hW : Only [g] w1 W) => row_cells (hrest W hW))
  have HY := Lib.hid (fun W (hW : Only [g] w1 W) => rowf (hrest W hW))
  have HX := Lib.hid hrest
  clear b1 hrest hc
  by_cases hs : (last : Int) - i < 4
  · have HF := Lib.hid (show res = .bad 20 i by rw [HRES.out, textF, if_pos (by rw [HR.out.2]; omega)])
    go_wp2_with fail
    refine (wrong_any 20 i w1 H1.out.1).mono ?_
    rintro e w2 ⟨rfl, hc2, ho2⟩
    have x2 := HW.out _ ho2
    have y2 := HY.out _ ho2
    clear c1 f1 x1 y1
    go_wp2_with fail
    have cp := row_cells (put5row (HX.out _ ho2) (.int .i64 0) (.int .i64 0) (.string ⟨#[]⟩) (.slice none 0 0) (.slice none 0 0))
    refine bodyPost_ret (v := .agg #[.int .i64 0, .int .i64 0, .string ⟨#[]⟩, .slice none 0 0, .slice none 0 0]) (by simp [results, Tryd.results59, go_sem, cp]) rfl ?_
    have oW := put5only (w2) w.heap.size (.int .i64 0) (.int .i64 0) (.string ⟨#[]⟩) (.slice none 0 0) (.slice none 0 0)
    exact .bad (t := T.mk 0 0 ⟨#[]⟩ none 0 [] none 0 []) HF.out (by decide) (HC.out.past hc2 oW (by simp)) ((H1.out.2.2.2.trans ho2).then_ oW (fun x hx => .inr (by simp at hx; omega)))
  have hz1 := lt_of_block H1.out.2.2.1
  have HG := Lib.hid (rtext_any (dp := deep) n w1 H1.out.1 (by omega) hl H1.out.2.1 hgB)
  go_wp2_with fail
  refine HG.out.mono ?_
  rintro e w2 ⟨ho2, h2⟩
  rw [← HR0.out] at h2
  have x2 := HW.out _ ho2
  have y2 := HY.out _ ho2
  have HO2 := Lib.hid ho2
  clear c1 f1 x1 y1 ho2
  rcases hr : res with ⟨c, q⟩ | ⟨v, m⟩
  · rw [hr] at h2
    obtain ⟨h0, ⟨⟨kt, nt, st, lat, lct, lt, dat, dct, dt⟩, rfl⟩, j, hc2⟩ := h2
    dsimp only [T.arg, T.cells]
    have H2 := Lib.hid (And.intro h0 hc2)
    clear h0 hc2
    go_wp2_with fail
    have cp := row_cells (put5row (HX.out _ HO2.out) (.int .i64 kt) (.int .i64 nt) (.string st) (.slice lat lt.length lct) (.slice dat dt.length dct))
    refine bodyPost_ret (v := .agg #[.int .i64 kt, .int .i64 nt, .string st, .slice lat lt.length lct, .slice dat dt.length dct]) (by simp [results, Tryd.results59, go_sem, cp]) rfl ?_
    have oW := put5only (w2) w.heap.size (.int .i64 kt) (.int .i64 nt) (.string st) (.slice lat lt.length lct) (.slice dat dt.length dct)
    exact .bad (t := T.mk kt nt st lat lct lt dat dct dt) hr H2.out.1 (HC.out.past H2.out.2 oW (by simp)) ((H1.out.2.2.2.trans HO2.out).then_ oW (fun x hx => .inr (by simp at hx; omega)))
  · rw [hr] at h2
    obtain ⟨⟨kt, nt, st, lat, lct, lt, dat, dct, dt⟩, rfl, hv, ht, hc2⟩ := h2
    dsimp only [T.arg, T.cells]
    have H2 := Lib.hid (And.intro hv (And.intro ht hc2))
    clear hv ht hc2
    go_wp2_with fail
    have cp := row_cells (put5row (HX.out _ HO2.out) (.int .i64 kt) (.int .i64 nt) (.string st) (.slice lat lt.length lct) (.slice dat dt.length dct))
    refine bodyPost_ret (v := .agg #[.int .i64 kt, .int .i64 nt, .string st, .slice lat lt.length lct, .slice dat dt.length dct]) (by simp [results, Tryd.results59, go_sem, cp]) rfl ?_
    have oW := put5only (w2) w.heap.size (.int .i64 kt) (.int .i64 nt) (.string st) (.slice lat lt.length lct) (.slice dat dt.length dct)
    exact .ok (t := T.mk kt nt st lat lct lt dat dct dt) hr H2.out.1 (H2.out.2.1.keep oW (by simp; omega) (by omega)) (HC.out.past H2.out.2.2 oW (by simp)) ((H1.out.2.2.2.trans HO2.out).then_ oW (fun x hx => .inr (by simp at hx; omega)))
end Go.Proofs.YtjfgmcmnpekahaaDoor
