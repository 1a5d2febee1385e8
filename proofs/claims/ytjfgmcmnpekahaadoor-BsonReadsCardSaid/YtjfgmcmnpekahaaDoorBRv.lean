/- The document's own reader of layer 2: a value, by its kind. No statement is proved here. -/
import Derived.Test.YtjfgmcmnpekahaaDoorBRt
namespace Go.Proofs.YtjfgmcmnpekahaaDoor
open Go.RowKit
set_option maxRecDepth 100000

theorem RCur.at2 {w : World} {g : Nat} {K : Byt} {i : Nat} {fc fq : Int} (h : RCur w g K i fc fq) (j : Nat) (z : Int) (hz : z = j) : RCur (w.setCell ⟨g, 1, none⟩ (.int .i64 z)) g K j fc fq := by subst hz; exact h.at_ j
set_option maxHeartbeats 8000000 in
theorem rvalue_1 {g : Nat} {K : Byt} {i last : Nat} {deep : Int} (n : Nat) (w : World) (h : RCur w g K i 0 0) (hi : i ≤ last) (hl : last ≤ K.bs.length) {B : Nat} (hE : Env2 w B) (hgB : B ≤ g) : Calls Tryd.prog 59 #[.pointer (some ⟨g, 0, none⟩), .int .i64 1, .int .i64 deep, .int .i64 last] w (RReads (valF (n + 1) 1 deep (K.rest i last) i) g K i w) := by
  obtain ⟨res, hres⟩ : ∃ res, res = valF (n + 1) 1 deep (K.rest i last) i := ⟨_, rfl⟩
  rw [← hres]
  rw [val_plain (by omega)] at hres
  have HRES := Lib.hid hres
  clear hres
  have HC := Lib.hid h
  have HE := Lib.hid hE
  have hg := lt_of_block h.row
  have hcap := h.cap
  have hfar := h.far
  have HR := Lib.hid (And.intro (rest_isB (i := i) (r := last) h.byte) (rest_len (i := i) hl))
  have HLE := Lib.hid (fun W => (least_any 1 (by omega) (by omega) W).mono fun e w' h => (⟨h.1, h.2⟩ : e = .returned (.int .i64 0) ∧ Below W.heap.size W w'))
  clear h hE
  go_enter Tryd.func59, Tryd.ntmps59
  have b1 := below1 w (.cells #[.int .i64 0, .int .i64 0, .string ⟨#[]⟩, .slice none 0 0, .slice none 0 0] 25)
  have z0 := heap_alloc_new w (.cells #[.int .i64 0, .int .i64 0, .string ⟨#[]⟩, .slice none 0 0, .slice none 0 0] 25)
  have HU := Lib.hid (And.intro (HC.out.then_ b1) (And.intro (HE.out.then_ b1) (And.intro z0 (Only.of_below (S := [g]) b1))))
  have hc := row_cells HU.out.1.row
  clear b1 z0
  go_wp2_with fail
  generalize w.alloc (.cells #[.int .i64 0, .int .i64 0, .string ⟨#[]⟩, .slice none 0 0, .slice none 0 0] 25) = U at HU hc ⊢
  refine (HLE.out _).mono ?_
  rintro e w1 ⟨rfl, b1⟩
  have H1 := Lib.hid (And.intro (HU.out.1.then_ b1) (And.intro (HU.out.2.1.then_ b1) (And.intro (row_then HU.out.2.2.1 b1) (HU.out.2.2.2.trans (Only.of_below b1)))))
  have c1 := row_cells H1.out.1.row
  have f1 := rowf H1.out.1.row
  have x1 := row_cells H1.out.2.2.1
  have y1 := rowf H1.out.2.2.1
  have hrest := fun W (hW : Only [g] w1 W) => keep_row hW H1.out.2.2.1 (by simp; omega)
  have HW := Lib.hid (fun W (hW : Only [g] w1 W) => row_cells (hrest W hW))
  have HY := Lib.hid (fun W (hW : Only [g] w1 W) => rowf (hrest W hW))
  have HX := Lib.hid hrest
  clear b1 hrest hc
  have hs : ¬ ((last : Int) - i < 0) := by omega
  go_wp2_with fail
  have cp := row_cells (put5row (HX.out _ (Only.refl _ _)) (.int .i64 1) (.int .i64 0) (.string ⟨#[]⟩) (.slice none 0 0) (.slice none 0 0))
  refine bodyPost_ret (v := .agg #[.int .i64 1, .int .i64 0, .string ⟨#[]⟩, .slice none 0 0, .slice none 0 0]) (by simp [results, Tryd.results59, go_sem, cp]) rfl ?_
  have oW := put5only (w1) w.heap.size (.int .i64 1) (.int .i64 0) (.string ⟨#[]⟩) (.slice none 0 0) (.slice none 0 0)
  exact .ok (t := T.mk 1 0 ⟨#[]⟩ none 0 [] none 0 []) HRES.out (by rw [T.val_mk]; rfl) (leaf_own _ _ (by unfold okInt; omega) (by unfold okInt; omega) (by simp [okLen, ByteArray.size])) (HC.out.past H1.out.1 oW (by simp)) (H1.out.2.2.2.then_ oW (fun x hx => .inr (by simp at hx; omega)))
set_option maxHeartbeats 8000000 in
theorem rvalue_2 {g : Nat} {K : Byt} {i last : Nat} {deep : Int} (n : Nat) (w : World) (h : RCur w g K i 0 0) (hi : i ≤ last) (hl : last ≤ K.bs.length) {B : Nat} (hE : Env2 w B) (hgB : B ≤ g) : Calls Tryd.prog 59 #[.pointer (some ⟨g, 0, none⟩), .int .i64 2, .int .i64 deep, .int .i64 last] w (RReads (valF (n + 1) 2 deep (K.rest i last) i) g K i w) := by
  obtain ⟨res, hres⟩ : ∃ res, res = valF (n + 1) 2 deep (K.rest i last) i := ⟨_, rfl⟩
  rw [← hres]
  rw [val_plain (by omega)] at hres
  have HRES := Lib.hid hres
  clear hres
  have HC := Lib.hid h
  have HE := Lib.hid hE
  have hg := lt_of_block h.row
  have hcap := h.cap
  have hfar := h.far
  have HR := Lib.hid (And.intro (rest_isB (i := i) (r := last) h.byte) (rest_len (i := i) hl))
  have HLE := Lib.hid (fun W => (least_any 2 (by omega) (by omega) W).mono fun e w' h => (⟨h.1, h.2⟩ : e = .returned (.int .i64 0) ∧ Below W.heap.size W w'))
  clear h hE
  go_enter Tryd.func59, Tryd.ntmps59
  have b1 := below1 w (.cells #[.int .i64 0, .int .i64 0, .string ⟨#[]⟩, .slice none 0 0, .slice none 0 0] 25)
  have z0 := heap_alloc_new w (.cells #[.int .i64 0, .int .i64 0, .string ⟨#[]⟩, .slice none 0 0, .slice none 0 0] 25)
  have HU := Lib.hid (And.intro (HC.out.then_ b1) (And.intro (HE.out.then_ b1) (And.intro z0 (Only.of_below (S := [g]) b1))))
  have hc := row_cells HU.out.1.row
  clear b1 z0
  go_wp2_with fail
  generalize w.alloc (.cells #[.int .i64 0, .int .i64 0, .string ⟨#[]⟩, .slice none 0 0, .slice none 0 0] 25) = U at HU hc ⊢
  refine (HLE.out _).mono ?_
  rintro e w1 ⟨rfl, b1⟩
  have H1 := Lib.hid (And.intro (HU.out.1.then_ b1) (And.intro (HU.out.2.1.then_ b1) (And.intro (row_then HU.out.2.2.1 b1) (HU.out.2.2.2.trans (Only.of_below b1)))))
  have c1 := row_cells H1.out.1.row
  have f1 := rowf H1.out.1.row
  have x1 := row_cells H1.out.2.2.1
  have y1 := rowf H1.out.2.2.1
  have hrest := fun W (hW : Only [g] w1 W) => keep_row hW H1.out.2.2.1 (by simp; omega)
  have HW := Lib.hid (fun W (hW : Only [g] w1 W) => row_cells (hrest W hW))
  have HY := Lib.hid (fun W (hW : Only [g] w1 W) => rowf (hrest W hW))
  have HX := Lib.hid hrest
  clear b1 hrest hc
  have hs : ¬ ((last : Int) - i < 0) := by omega
  go_wp2_with fail
  have cp := row_cells (put5row (HX.out _ (Only.refl _ _)) (.int .i64 2) (.int .i64 0) (.string ⟨#[]⟩) (.slice none 0 0) (.slice none 0 0))
  refine bodyPost_ret (v := .agg #[.int .i64 2, .int .i64 0, .string ⟨#[]⟩, .slice none 0 0, .slice none 0 0]) (by simp [results, Tryd.results59, go_sem, cp]) rfl ?_
  have oW := put5only (w1) w.heap.size (.int .i64 2) (.int .i64 0) (.string ⟨#[]⟩) (.slice none 0 0) (.slice none 0 0)
  exact .ok (t := T.mk 2 0 ⟨#[]⟩ none 0 [] none 0 []) HRES.out (by rw [T.val_mk]; rfl) (leaf_own _ _ (by unfold okInt; omega) (by unfold okInt; omega) (by simp [okLen, ByteArray.size])) (HC.out.past H1.out.1 oW (by simp)) (H1.out.2.2.2.then_ oW (fun x hx => .inr (by simp at hx; omega)))
set_option maxHeartbeats 8000000 in
theorem rvalue_11 {g : Nat} {K : Byt} {i last : Nat} {deep : Int} (n : Nat) (w : World) (h : RCur w g K i 0 0) (hi : i ≤ last) (hl : last ≤ K.bs.length) {B : Nat} (hE : Env2 w B) (hgB : B ≤ g) : Calls Tryd.prog 59 #[.pointer (some ⟨g, 0, none⟩), .int .i64 11, .int .i64 deep, .int .i64 last] w (RReads (valF (n + 1) 11 deep (K.rest i last) i) g K i w) := by
  obtain ⟨res, hres⟩ : ∃ res, res = valF (n + 1) 11 deep (K.rest i last) i := ⟨_, rfl⟩
  rw [← hres]
  rw [val_plain (by omega)] at hres
  have HRES := Lib.hid hres
  clear hres
  have HC := Lib.hid h
  have HE := Lib.hid hE
  have hg := lt_of_block h.row
  have hcap := h.cap
  have hfar := h.far
  have HR := Lib.hid (And.intro (rest_isB (i := i) (r := last) h.byte) (rest_len (i := i) hl))
  have HLE := Lib.hid (fun W => (least_any 11 (by omega) (by omega) W).mono fun e w' h => (⟨h.1, h.2⟩ : e = .returned (.int .i64 0) ∧ Below W.heap.size W w'))
  clear h hE
  go_enter Tryd.func59, Tryd.ntmps59
  have b1 := below1 w (.cells #[.int .i64 0, .int .i64 0, .string ⟨#[]⟩, .slice none 0 0, .slice none 0 0] 25)
  have z0 := heap_alloc_new w (.cells #[.int .i64 0, .int .i64 0, .string ⟨#[]⟩, .slice none 0 0, .slice none 0 0] 25)
  have HU := Lib.hid (And.intro (HC.out.then_ b1) (And.intro (HE.out.then_ b1) (And.intro z0 (Only.of_below (S := [g]) b1))))
  have hc := row_cells HU.out.1.row
  clear b1 z0
  go_wp2_with fail
  generalize w.alloc (.cells #[.int .i64 0, .int .i64 0, .string ⟨#[]⟩, .slice none 0 0, .slice none 0 0] 25) = U at HU hc ⊢
  refine (HLE.out _).mono ?_
  rintro e w1 ⟨rfl, b1⟩
  have H1 := Lib.hid (And.intro (HU.out.1.then_ b1) (And.intro (HU.out.2.1.then_ b1) (And.intro (row_then HU.out.2.2.1 b1) (HU.out.2.2.2.trans (Only.of_below b1)))))
  have c1 := row_cells H1.out.1.row
  have f1 := rowf H1.out.1.row
  have x1 := row_cells H1.out.2.2.1
  have y1 := rowf H1.out.2.2.1
  have hrest := fun W (hW : Only [g] w1 W) => keep_row hW H1.out.2.2.1 (by simp; omega)
  have HW := Lib.hid (fun W (hW : Only [g] w1 W) => row_cells (hrest W hW))
  have HY := Lib.hid (fun W (hW : Only [g] w1 W) => rowf (hrest W hW))
  have HX := Lib.hid hrest
  clear b1 hrest hc
  have hs : ¬ ((last : Int) - i < 0) := by omega
  go_wp2_with fail
  have cp := row_cells (put5row (HX.out _ (Only.refl _ _)) (.int .i64 11) (.int .i64 0) (.string ⟨#[]⟩) (.slice none 0 0) (.slice none 0 0))
  refine bodyPost_ret (v := .agg #[.int .i64 11, .int .i64 0, .string ⟨#[]⟩, .slice none 0 0, .slice none 0 0]) (by simp [results, Tryd.results59, go_sem, cp]) rfl ?_
  have oW := put5only (w1) w.heap.size (.int .i64 11) (.int .i64 0) (.string ⟨#[]⟩) (.slice none 0 0) (.slice none 0 0)
  exact .ok (t := T.mk 11 0 ⟨#[]⟩ none 0 [] none 0 []) HRES.out (by rw [T.val_mk]; rfl) (leaf_own _ _ (by unfold okInt; omega) (by unfold okInt; omega) (by simp [okLen, ByteArray.size])) (HC.out.past H1.out.1 oW (by simp)) (H1.out.2.2.2.then_ oW (fun x hx => .inr (by simp at hx; omega)))
set_option maxHeartbeats 8000000 in
theorem rvalue_3 {g : Nat} {K : Byt} {i last : Nat} {deep : Int} (n : Nat) (w : World) (h : RCur w g K i 0 0) (hi : i ≤ last) (hl : last ≤ K.bs.length) {B : Nat} (hE : Env2 w B) (hgB : B ≤ g) : Calls Tryd.prog 59 #[.pointer (some ⟨g, 0, none⟩), .int .i64 3, .int .i64 deep, .int .i64 last] w (RReads (valF (n + 1) 3 deep (K.rest i last) i) g K i w) := by
  obtain ⟨res, hres⟩ : ∃ res, res = valF (n + 1) 3 deep (K.rest i last) i := ⟨_, rfl⟩
  rw [← hres]
  rw [val_num (by omega)] at hres
  have HRES := Lib.hid hres
  clear hres
  have HC := Lib.hid h
  have HE := Lib.hid hE
  have hg := lt_of_block h.row
  have hcap := h.cap
  have hfar := h.far
  have HR := Lib.hid (And.intro (rest_isB (i := i) (r := last) h.byte) (rest_len (i := i) hl))
  have HLE := Lib.hid (fun W => (least_any 3 (by omega) (by omega) W).mono fun e w' h => (⟨h.1, h.2⟩ : e = .returned (.int .i64 8) ∧ Below W.heap.size W w'))
  clear h hE
  go_enter Tryd.func59, Tryd.ntmps59
  have b1 := below1 w (.cells #[.int .i64 0, .int .i64 0, .string ⟨#[]⟩, .slice none 0 0, .slice none 0 0] 25)
  have z0 := heap_alloc_new w (.cells #[.int .i64 0, .int .i64 0, .string ⟨#[]⟩, .slice none 0 0, .slice none 0 0] 25)
  have HU := Lib.hid (And.intro (HC.out.then_ b1) (And.intro (HE.out.then_ b1) (And.intro z0 (Only.of_below (S := [g]) b1))))
  have hc := row_cells HU.out.1.row
  clear b1 z0
  go_wp2_with fail
  generalize w.alloc (.cells #[.int .i64 0, .int .i64 0, .string ⟨#[]⟩, .slice none 0 0, .slice none 0 0] 25) = U at HU hc ⊢
  refine (HLE.out _).mono ?_
  rintro e w1 ⟨rfl, b1⟩
  have H1 := Lib.hid (And.intro (HU.out.1.then_ b1) (And.intro (HU.out.2.1.then_ b1) (And.intro (row_then HU.out.2.2.1 b1) (HU.out.2.2.2.trans (Only.of_below b1)))))
  have c1 := row_cells H1.out.1.row
  have f1 := rowf H1.out.1.row
  have x1 := row_cells H1.out.2.2.1
  have y1 := rowf H1.out.2.2.1
  have hrest := fun W (hW : Only [g] w1 W) => keep_row hW H1.out.2.2.1 (by simp; omega)
  have HW := Lib.hid (fun W (hW : Only [g] w1 W) => row_cells (hrest W hW))
  have HY := Lib.hid (fun W (hW : Only [g] w1 W) => rowf (hrest W hW))
  have HX := Lib.hid hrest
  clear b1 hrest hc
  by_cases hs : (last : Int) - i < 8
  · have HF := Lib.hid (show res = .bad 20 i by rw [HRES.out, if_pos (by rw [HR.out.2]; omega)])
    go_wp2_with fail
    refine (wrong_any 20 i w1 H1.out.1).mono ?_
    rintro e w2 ⟨rfl, hc2, ho2⟩
    have x2 := HW.out _ ho2
    have y2 := HY.out _ ho2
    clear c1 f1 x1 y1
    go_wp2_with fail
    have cp := row_cells (put5row (HX.out _ ho2) (.int .i64 0) (.int .i64 0) (.string ⟨#[]⟩) (.slice none 0 0) (.slice none 0 0))
    refine bodyPost_ret (v := .agg #[.int .i64 0, .int .i64 0, .string ⟨#[]⟩, .slice none 0 0, .slice none 0 0]) (by simp [results, Tryd.results59, go_sem, cp]) rfl ?_
    have oW := put5only (w2) w.heap.size (.int .i64 0) (.int .i64 0) (.string ⟨#[]⟩) (.slice none 0 0) (.slice none 0 0)
    exact .bad (t := T.mk 0 0 ⟨#[]⟩ none 0 [] none 0 []) HF.out (by decide) (HC.out.past hc2 oW (by simp)) ((H1.out.2.2.2.trans ho2).then_ oW (fun x hx => .inr (by simp at hx; omega)))
  have HF := Lib.hid (show res = .ok (.mk 3 (wrap64 (num ((K.rest i last).take 8))) ⟨#[]⟩ [] []) 8 by rw [HRES.out, if_neg (by rw [HR.out.2]; omega)])
  have hf : (K.bs.drop i).take 8 = (K.rest i last).take 8 := by
    unfold Byt.rest
    rw [List.take_take, Nat.min_eq_left (by omega)]
  have HG := Lib.hid (get8_any w1 H1.out.1 (by omega))
  rw [hf] at HG
  have hn := wrap_ok (num ((K.rest i last).take 8))
  generalize wrap64 (num ((K.rest i last).take 8)) = z at HG HF hn
  have HN := Lib.hid hn
  clear hf hn
  go_wp2_with fail
  refine HG.out.mono ?_
  rintro e w2 ⟨rfl, hc2, ho2⟩
  have x2 := HW.out _ ho2
  have y2 := HY.out _ ho2
  clear c1 f1 x1 y1
  go_wp2_with fail
  have cp := row_cells (put5row (HX.out _ ho2) (.int .i64 3) (.int .i64 z) (.string ⟨#[]⟩) (.slice none 0 0) (.slice none 0 0))
  refine bodyPost_ret (v := .agg #[.int .i64 3, .int .i64 z, .string ⟨#[]⟩, .slice none 0 0, .slice none 0 0]) (by simp [results, Tryd.results59, go_sem, cp]) rfl ?_
  have oW := put5only (w2) w.heap.size (.int .i64 3) (.int .i64 z) (.string ⟨#[]⟩) (.slice none 0 0) (.slice none 0 0)
  exact .ok (t := T.mk 3 z ⟨#[]⟩ none 0 [] none 0 []) HF.out (by rw [T.val_mk]; rfl) (leaf_own _ _ (by unfold okInt; omega) HN.out (by simp [okLen, ByteArray.size])) (HC.out.past hc2 oW (by simp)) ((H1.out.2.2.2.trans ho2).then_ oW (fun x hx => .inr (by simp at hx; omega)))
set_option maxHeartbeats 8000000 in
theorem rvalue_10 {g : Nat} {K : Byt} {i last : Nat} {deep : Int} (n : Nat) (w : World) (h : RCur w g K i 0 0) (hi : i ≤ last) (hl : last ≤ K.bs.length) {B : Nat} (hE : Env2 w B) (hgB : B ≤ g) : Calls Tryd.prog 59 #[.pointer (some ⟨g, 0, none⟩), .int .i64 10, .int .i64 deep, .int .i64 last] w (RReads (valF (n + 1) 10 deep (K.rest i last) i) g K i w) := by
  obtain ⟨res, hres⟩ : ∃ res, res = valF (n + 1) 10 deep (K.rest i last) i := ⟨_, rfl⟩
  rw [← hres]
  rw [val_num (by omega)] at hres
  have HRES := Lib.hid hres
  clear hres
  have HC := Lib.hid h
  have HE := Lib.hid hE
  have hg := lt_of_block h.row
  have hcap := h.cap
  have hfar := h.far
  have HR := Lib.hid (And.intro (rest_isB (i := i) (r := last) h.byte) (rest_len (i := i) hl))
  have HLE := Lib.hid (fun W => (least_any 10 (by omega) (by omega) W).mono fun e w' h => (⟨h.1, h.2⟩ : e = .returned (.int .i64 8) ∧ Below W.heap.size W w'))
  clear h hE
  go_enter Tryd.func59, Tryd.ntmps59
  have b1 := below1 w (.cells #[.int .i64 0, .int .i64 0, .string ⟨#[]⟩, .slice none 0 0, .slice none 0 0] 25)
  have z0 := heap_alloc_new w (.cells #[.int .i64 0, .int .i64 0, .string ⟨#[]⟩, .slice none 0 0, .slice none 0 0] 25)
  have HU := Lib.hid (And.intro (HC.out.then_ b1) (And.intro (HE.out.then_ b1) (And.intro z0 (Only.of_below (S := [g]) b1))))
  have hc := row_cells HU.out.1.row
  clear b1 z0
  go_wp2_with fail
  generalize w.alloc (.cells #[.int .i64 0, .int .i64 0, .string ⟨#[]⟩, .slice none 0 0, .slice none 0 0] 25) = U at HU hc ⊢
  refine (HLE.out _).mono ?_
  rintro e w1 ⟨rfl, b1⟩
  have H1 := Lib.hid (And.intro (HU.out.1.then_ b1) (And.intro (HU.out.2.1.then_ b1) (And.intro (row_then HU.out.2.2.1 b1) (HU.out.2.2.2.trans (Only.of_below b1)))))
  have c1 := row_cells H1.out.1.row
  have f1 := rowf H1.out.1.row
  have x1 := row_cells H1.out.2.2.1
  have y1 := rowf H1.out.2.2.1
  have hrest := fun W (hW : Only [g] w1 W) => keep_row hW H1.out.2.2.1 (by simp; omega)
  have HW := Lib.hid (fun W (hW : Only [g] w1 W) => row_cells (hrest W hW))
  have HY := Lib.hid (fun W (hW : Only [g] w1 W) => rowf (hrest W hW))
  have HX := Lib.hid hrest
  clear b1 hrest hc
  by_cases hs : (last : Int) - i < 8
  · have HF := Lib.hid (show res = .bad 20 i by rw [HRES.out, if_pos (by rw [HR.out.2]; omega)])
    go_wp2_with fail
    refine (wrong_any 20 i w1 H1.out.1).mono ?_
    rintro e w2 ⟨rfl, hc2, ho2⟩
    have x2 := HW.out _ ho2
    have y2 := HY.out _ ho2
    clear c1 f1 x1 y1
    go_wp2_with fail
    have cp := row_cells (put5row (HX.out _ ho2) (.int .i64 0) (.int .i64 0) (.string ⟨#[]⟩) (.slice none 0 0) (.slice none 0 0))
    refine bodyPost_ret (v := .agg #[.int .i64 0, .int .i64 0, .string ⟨#[]⟩, .slice none 0 0, .slice none 0 0]) (by simp [results, Tryd.results59, go_sem, cp]) rfl ?_
    have oW := put5only (w2) w.heap.size (.int .i64 0) (.int .i64 0) (.string ⟨#[]⟩) (.slice none 0 0) (.slice none 0 0)
    exact .bad (t := T.mk 0 0 ⟨#[]⟩ none 0 [] none 0 []) HF.out (by decide) (HC.out.past hc2 oW (by simp)) ((H1.out.2.2.2.trans ho2).then_ oW (fun x hx => .inr (by simp at hx; omega)))
  have HF := Lib.hid (show res = .ok (.mk 10 (wrap64 (num ((K.rest i last).take 8))) ⟨#[]⟩ [] []) 8 by rw [HRES.out, if_neg (by rw [HR.out.2]; omega)])
  have hf : (K.bs.drop i).take 8 = (K.rest i last).take 8 := by
    unfold Byt.rest
    rw [List.take_take, Nat.min_eq_left (by omega)]
  have HG := Lib.hid (get8_any w1 H1.out.1 (by omega))
  rw [hf] at HG
  have hn := wrap_ok (num ((K.rest i last).take 8))
  generalize wrap64 (num ((K.rest i last).take 8)) = z at HG HF hn
  have HN := Lib.hid hn
  clear hf hn
  go_wp2_with fail
  refine HG.out.mono ?_
  rintro e w2 ⟨rfl, hc2, ho2⟩
  have x2 := HW.out _ ho2
  have y2 := HY.out _ ho2
  clear c1 f1 x1 y1
  go_wp2_with fail
  have cp := row_cells (put5row (HX.out _ ho2) (.int .i64 10) (.int .i64 z) (.string ⟨#[]⟩) (.slice none 0 0) (.slice none 0 0))
  refine bodyPost_ret (v := .agg #[.int .i64 10, .int .i64 z, .string ⟨#[]⟩, .slice none 0 0, .slice none 0 0]) (by simp [results, Tryd.results59, go_sem, cp]) rfl ?_
  have oW := put5only (w2) w.heap.size (.int .i64 10) (.int .i64 z) (.string ⟨#[]⟩) (.slice none 0 0) (.slice none 0 0)
  exact .ok (t := T.mk 10 z ⟨#[]⟩ none 0 [] none 0 []) HF.out (by rw [T.val_mk]; rfl) (leaf_own _ _ (by unfold okInt; omega) HN.out (by simp [okLen, ByteArray.size])) (HC.out.past hc2 oW (by simp)) ((H1.out.2.2.2.trans ho2).then_ oW (fun x hx => .inr (by simp at hx; omega)))
end Go.Proofs.YtjfgmcmnpekahaaDoor
