/- The document's own reader of layer 2: what reading yields; text. No statement is proved here. -/
import Derived.Test.YtjfgmcmnpekahaaDoorBRr
namespace Go.Proofs.YtjfgmcmnpekahaaDoor
open Go.RowKit
set_option maxRecDepth 100000

/-- What reading a value yields, or the first fault, which the reader keeps. -/
def RReads (res : Res V) (g : Nat) (K : Byt) (i : Nat) (w : World) (e : Ending) (w' : World) : Prop :=
  Only [g] w w' ∧ match res with
  | .bad c q => c ≠ 0 ∧ (∃ t : T, e = .returned t.arg) ∧ ∃ j, RCur w' g K j c q
  | .ok v m => ∃ t : T, e = .returned t.arg ∧ t.val = v ∧ t.Own w' w.heap.size ∧ RCur w' g K (i + m) 0 0
theorem RReads.bad {res : Res V} {g : Nat} {K : Byt} {i j : Nat} {w w' : World} {c q : Int} {t : T} (h : res = .bad c q) (h0 : c ≠ 0) (hc : RCur w' g K j c q) (ho : Only [g] w w') : RReads res g K i w (.returned t.arg) w' := by subst h; exact ⟨ho, h0, ⟨t, rfl⟩, j, hc⟩
theorem RReads.ok {res : Res V} {g : Nat} {K : Byt} {i : Nat} {w w' : World} {v : V} {m : Nat} {t : T} (h : res = .ok v m) (hv : t.val = v) (ht : t.Own w' w.heap.size) (hc : RCur w' g K (i + m) 0 0) (ho : Only [g] w w') : RReads res g K i w (.returned t.arg) w' := by subst h; exact ⟨ho, t, rfl, hv, ht, hc⟩
theorem rest_len {K : Byt} {i r : Nat} (h : r ≤ K.bs.length) : (K.rest i r).length = r - i := by
  unfold Byt.rest
  rw [List.length_take, List.length_drop]
  omega
theorem rest_isB {K : Byt} {i r : Nat} (h : isB K.bs) : isB (K.rest i r) := isB_take (isB_dropn h _) _
theorem rest_four {K : Byt} {i r : Nat} (h : i + 4 ≤ r) : (K.bs.drop i).take 4 = (K.rest i r).take 4 := by
  unfold Byt.rest
  rw [List.take_take, Nat.min_eq_left (by omega)]
theorem RCur.slice {w : World} {g : Nat} {K : Byt} {i : Nat} {fc fq : Int} (h : RCur w g K i fc fq) {b o : Nat} (ha : K.a = some ⟨b, o, none⟩) {j s : Nat} (hs : s ≤ K.bs.length) : InB w (some ⟨b, o + j, none⟩) (K.rest j s) := by
  intro k x hx
  have hk : k < s - j := by
    have := lt_of_get hx
    rw [rest_len hs] at this
    exact this
  rw [rest_get hk] at hx
  exact ⟨b, o + j, rfl, by rw [Nat.add_assoc]; exact h.byte_at ha hx⟩
theorem textF_eq {R : List Int} {p : Int} {M : Nat} {x : Int} (hl : 4 ≤ R.length) (hN : num (R.take 4) = ((M + 1 : Nat) : Int)) (hr : 4 + (M + 1) ≤ R.length) (hx : R[4 + M]? = some x) : textF R p = if x = 0 ∧ textOk (strOfNums ((R.drop 4).take M)) = true then .ok (strOfNums ((R.drop 4).take M)) (4 + (M + 1)) else .bad 24 (p + 4) := by
  have hxR : R.getD (3 + (M + 1)) 0 = x := by
    rw [List.getD_eq_getElem?_getD, show 3 + (M + 1) = 4 + M by omega, hx]
    rfl
  rw [textF, if_neg (by omega), hN, if_neg (by omega), if_neg (by omega), Int.toNat_natCast, hxR, show M + 1 - 1 = M by omega]
set_option maxHeartbeats 8000000 in
theorem rtext_any {g : Nat} {K : Byt} {i last : Nat} {dp : Int} (n : Nat) (w : World) (h : RCur w g K i 0 0) (h4 : i + 4 ≤ last) (hl : last ≤ K.bs.length) {B : Nat} (hE : Env2 w B) (hgB : B ≤ g) : Calls Tryd.prog 73 #[.pointer (some ⟨g, 0, none⟩), .int .i64 last] w (RReads (valF (n + 1) 4 dp (K.rest i last) i) g K i w) := by
  obtain ⟨res, hres⟩ : ∃ res, res = valF (n + 1) 4 dp (K.rest i last) i := ⟨_, rfl⟩
  rw [← hres]
  rw [val_text] at hres
  have HRES := Lib.hid hres
  clear hres
  have HC := Lib.hid h
  have HE := Lib.hid hE
  have hg := lt_of_block h.row
  have hcap := h.cap
  have hfar := h.far
  obtain ⟨b, o, ha⟩ := h.some_ (by omega)
  have HA := Lib.hid ha
  have hR : isB (K.rest i last) := rest_isB h.byte
  have hRl := rest_len (i := i) hl
  obtain ⟨N, hN, -, hN4⟩ := num_small hR (k := 4) (by omega) (by omega)
  have hf := rest_four (K := K) h4
  have HR := Lib.hid (And.intro hR (And.intro hRl (And.intro hN hf)))
  clear h hE ha hR hRl hf hN
  go_enter Tryd.func73, Tryd.ntmps73
  have b1 := below1 w (.cells #[.int .i64 0, .int .i64 0, .string ⟨#[]⟩, .slice none 0 0, .slice none 0 0] 25)
  have z0 := heap_alloc_new w (.cells #[.int .i64 0, .int .i64 0, .string ⟨#[]⟩, .slice none 0 0, .slice none 0 0] 25)
  have HU := Lib.hid (And.intro (HC.out.then_ b1) (And.intro (HE.out.then_ b1) (And.intro z0 (Only.of_below (S := [g]) b1))))
  have hc := row_cells HU.out.1.row
  clear b1 z0
  go_wp2_with fail
  generalize w.alloc (.cells #[.int .i64 0, .int .i64 0, .string ⟨#[]⟩, .slice none 0 0, .slice none 0 0] 25) = U at HU ⊢
  refine (get4_any U HU.out.1 (by omega)).mono ?_
  rintro e w1 ⟨rfl, b1⟩
  rw [HR.out.2.2.2, HR.out.2.2.1]
  have H1 := Lib.hid (And.intro (HU.out.1.then_ b1) (And.intro (HU.out.2.1.then_ b1) (And.intro (row_then HU.out.2.2.1 b1) (HU.out.2.2.2.trans (Only.of_below b1)))))
  have c1 := row_cells H1.out.1.row
  have f1 := rowf H1.out.1.row
  have x1 := row_cells H1.out.2.2.1
  have y1 := rowf H1.out.2.2.1
  have hrest := fun W (hW : Only [g] w1 W) => keep_row hW H1.out.2.2.1 (by simp; omega)
  have HW := Lib.hid (fun W (hW : Only [g] w1 W) => row_cells (hrest W hW))
  have HY := Lib.hid (fun W (hW : Only [g] w1 W) => rowf (hrest W hW))
  have HX := Lib.hid hrest
  clear b1 hrest hc
  by_cases hN0 : N = 0
  · subst hN0
    have HF := Lib.hid (show res = .bad 21 i by rw [HRES.out, textF, if_neg (by have := HR.out.2.1; omega), HR.out.2.2.1, if_pos (show ((0 : Nat) : Int) = 0 from rfl)])
    go_wp2_with fail
    refine (wrong_any 21 i w1 H1.out.1).mono ?_
    rintro e w2 ⟨rfl, hc2, ho2⟩
    have x2 := HW.out _ ho2
    have y2 := HY.out _ ho2
    clear c1 f1 x1 y1
    go_wp2_with fail
    have cp := row_cells (put5row (HX.out _ ho2) (.int .i64 0) (.int .i64 0) (.string ⟨#[]⟩) (.slice none 0 0) (.slice none 0 0))
    refine bodyPost_ret (v := .agg #[.int .i64 0, .int .i64 0, .string ⟨#[]⟩, .slice none 0 0, .slice none 0 0]) (by simp [results, Tryd.results73, go_sem, cp]) rfl ?_
    have oW := put5only w2 w.heap.size (.int .i64 0) (.int .i64 0) (.string ⟨#[]⟩) (.slice none 0 0) (.slice none 0 0)
    exact .bad (t := T.mk 0 0 ⟨#[]⟩ none 0 [] none 0 []) HF.out (by decide) (HC.out.past hc2 oW (by simp)) ((H1.out.2.2.2.trans ho2).then_ oW (fun x hx => .inr (by simp at hx; omega)))
  have hNb : ((N : Int) == 0) = false := by rw [beq_eq_false_iff_ne]; omega
  have HN0 := Lib.hid hN0
  have HN4 := Lib.hid hN4
  clear hN0 hN4
  by_cases hlt : (last : Int) - i - 4 < N
  · have HF := Lib.hid (show res = .bad 20 i by rw [HRES.out, textF, if_neg (by have := HR.out.2.1; omega), HR.out.2.2.1, if_neg (by have := HN0.out; omega), if_pos (by rw [HR.out.2.1]; omega)])
    go_wp2_with fail
    refine (wrong_any 20 i w1 H1.out.1).mono ?_
    rintro e w2 ⟨rfl, hc2, ho2⟩
    have x2 := HW.out _ ho2
    have y2 := HY.out _ ho2
    clear c1 f1 x1 y1
    go_wp2_with fail
    have cp := row_cells (put5row (HX.out _ ho2) (.int .i64 0) (.int .i64 0) (.string ⟨#[]⟩) (.slice none 0 0) (.slice none 0 0))
    refine bodyPost_ret (v := .agg #[.int .i64 0, .int .i64 0, .string ⟨#[]⟩, .slice none 0 0, .slice none 0 0]) (by simp [results, Tryd.results73, go_sem, cp]) rfl ?_
    have oW := put5only w2 w.heap.size (.int .i64 0) (.int .i64 0) (.string ⟨#[]⟩) (.slice none 0 0) (.slice none 0 0)
    exact .bad (t := T.mk 0 0 ⟨#[]⟩ none 0 [] none 0 []) HF.out (by decide) (HC.out.past hc2 oW (by simp)) ((H1.out.2.2.2.trans ho2).then_ oW (fun x hx => .inr (by simp at hx; omega)))
  have hN1 : 1 ≤ N := by have := HN0.out; omega
  obtain ⟨M, hM⟩ : ∃ M, N = M + 1 := ⟨N - 1, by omega⟩
  have HM := Lib.hid hM
  obtain ⟨x, hx⟩ : ∃ x, (K.rest i last)[4 + M]? = some x := ⟨_, List.getElem?_eq_getElem (by have := HR.out.2.1; omega)⟩
  have HF := Lib.hid (textF_eq (p := i) (by have := HR.out.2.1; omega) (hM ▸ HR.out.2.2.1) (by have := HR.out.2.1; omega) hx)
  have hsl : ((K.rest i last).drop 4).take M = K.rest (i + 4) (i + 4 + M) := by
    rw [rest_drop]
    unfold Byt.rest
    rw [List.take_take]
    congr 1
    omega
  have hsz : (strOfNums (((K.rest i last).drop 4).take M)).size = M := by rw [nums_size, List.length_take, List.length_drop, HR.out.2.1]; omega
  have hcx := H1.out.1.byte_at HA.out (show K.bs[i + 4 + M]? = some x by rw [← hx, rest_get (by omega), Nat.add_assoc])
  have hc0 : w1.cell? ⟨g, 0, none⟩ = some (.slice (some ⟨b, o, none⟩) K.bs.length K.c) := by
    have := c1 0
    rw [HA.out] at this
    exact this
  have kd : (convert 28 9 (.slice (some ⟨b, o + (i + 4), none⟩) M (K.c - (i + 4)))).run Tryd.prog w1 = .ok (.string (strOfNums (((K.rest i last).drop 4).take M))) w1 := by
    rw [hsl]
    exact run_str w1 _ M _ _ (by rw [rest_len (by omega)]; omega) (H1.out.1.slice HA.out (by omega)) (fun h => by cases h)
  have ks : (Instr.slice 28 (.slice (some ⟨b, o, none⟩) K.bs.length K.c) (some (.int .i64 ((i : Int) + 4))) (some (.int .i64 ((i : Int) + 4 + (N : Int) - 1))) none).run Tryd.prog w1 = .ok (.slice (some ⟨b, o + (i + 4), none⟩) M (K.c - (i + 4))) w1 := by
    have e1 : ((i : Int) + 4).toNat = i + 4 := by omega
    have e2 : ((i : Int) + 4 + (N : Int) - 1).toNat = i + 4 + M := by omega
    have e3 : ¬ K.c = i + 4 := by omega
    rw [run_slice_lh w1 28 _ _ _ (by kernel_rfl) .i64 .i64 _ _ (by omega) (by omega) (by omega)]
    rw [show sizeOf (Tryd.prog.elem 28) = sizeOf 5 from rfl]
    simp [go_sem, sliced, e1, e2, e3]
  have hxB := rest_isB (i := i) (r := last) HC.out.byte x (List.mem_of_getElem? hx)
  have HV := Lib.hid (fun W => valid_any (strOfNums (((K.rest i last).drop 4).take M)) W (by omega))
  have HS := Lib.hid (And.intro hsz (And.intro hN1 (And.intro hcx hxB)))
  have hge : (N : Int) ≤ last - i - 4 := by omega
  have HGE := Lib.hid hge
  have hgb : decide (((last : Int) - i - 4) < N) = false := by simpa using hge
  clear hx hsl hM hsz hcx hxB hlt hN1 hge
  obtain ⟨s, hss⟩ : ∃ s, s = strOfNums (((K.rest i last).drop 4).take M) := ⟨_, rfl⟩
  rw [← hss] at kd HF HV HS
  clear hss
  have hN4 := HN4.out
  have hN1 := HS.out.2.1
  have hge := HGE.out
  have hc1 := c1 1
  clear c1
  go_wp2_with fail
  refine (HV.out _ H1.out.2.1.tabs).mono ?_
  rintro e w5 ⟨rfl, b5⟩
  have HF2 := Lib.hid (show res = if x = 0 ∧ Lib.validD s.data.toList = true then .ok (.mk 4 0 s [] []) (4 + N) else .bad 24 ((i : Int) + 4) by
    rw [HRES.out, HF.out, ← HM.out]
    unfold textOk
    by_cases hc : x = 0 ∧ Lib.validD s.data.toList = true
    · rw [if_pos hc, if_pos hc]
    · rw [if_neg hc, if_neg hc])
  have O15 := Lib.hid (show Only [g] w1 w5 from Only.of_below b5)
  have H5 := Lib.hid (And.intro (H1.out.1.then_ b5) (H1.out.2.2.2.trans (Only.of_below b5)))
  have hcx5 : w5.cell? ⟨b, o + (i + 4 + N - 1), none⟩ = some (.int .u8 x) := by
    have := (b5.cell (cell_lt HS.out.2.2.1)).trans HS.out.2.2.1
    rw [show i + 4 + N - 1 = i + 4 + M by have := HM.out; omega]
    exact this
  have hcx6 : w5.cell? ⟨b, o + (i + 3 + N), none⟩ = some (.int .u8 x) := by
    rw [show i + 3 + N = i + 4 + N - 1 by omega]
    exact hcx5
  have hc50 : w5.cell? ⟨g, 0, none⟩ = some (.slice (some ⟨b, o, none⟩) K.bs.length K.c) := by
    have := row_cells H5.out.1.row 0
    rw [HA.out] at this
    exact this
  have hc51 : w5.cell? ⟨g, 1, none⟩ = some (.int .i64 i) := row_cells H5.out.1.row 1
  have f5 := rowf H5.out.1.row
  have x5 := HW.out w5 O15.out
  have y5 := HY.out w5 O15.out
  have HX0 := Lib.hid HS.out.2.2.2
  clear b5 hc0 hc1 f1 x1 y1 ks kd
  generalize Lib.validD s.data.toList = v at HF2 ⊢
  by_cases hgood : x = 0 ∧ v = true
  · obtain ⟨rfl, rfl⟩ := hgood
    have HF3 := Lib.hid (show res = .ok (.mk 4 0 s [] []) (4 + N) by rw [HF2.out, if_pos ⟨rfl, rfl⟩])
    have hg5 : w5.setCell ⟨g, 1, none⟩ (.int .i64 ((i : Int) + 4 + N)) = w5.setCell ⟨g, 1, none⟩ (.int .i64 ((i + (4 + N) : Nat) : Int)) := by congr 2; omega
    have oA : Only [g] w1 (w5.setCell ⟨g, 1, none⟩ (.int .i64 ((i : Int) + 4 + N))) := O15.out.setCell (p := ⟨g, 1, none⟩) (.inl (by simp)) _
    have xA := HW.out _ oA
    have yA := HY.out _ oA
    have HOA := Lib.hid oA
    have HG5 := Lib.hid hg5
    clear hg5 oA
    go_wp2_with fail
    have cp := row_cells (put5row (HX.out _ HOA.out) (.int .i64 4) (.int .i64 0) (.string s) (.slice none 0 0) (.slice none 0 0))
    refine bodyPost_ret (v := .agg #[.int .i64 4, .int .i64 0, .string s, .slice none 0 0, .slice none 0 0]) (by simp [results, Tryd.results73, go_sem, cp]) rfl ?_
    rw [HG5.out] at HOA ⊢
    have oW := put5only (w5.setCell ⟨g, 1, none⟩ (.int .i64 ((i + (4 + N) : Nat) : Int))) w.heap.size (.int .i64 4) (.int .i64 0) (.string s) (.slice none 0 0) (.slice none 0 0)
    exact .ok (t := T.mk 4 0 s none 0 [] none 0 []) HF3.out (by rw [T.val_mk]; rfl) (leaf_own _ _ (by unfold okInt; omega) (by unfold okInt; omega) (by have := HS.out.1; have := HM.out; unfold okLen; omega)) (HC.out.past (H5.out.1.at_ (i + (4 + N))) oW (by simp)) ((H1.out.2.2.2.trans HOA.out).then_ oW (fun x hx => .inr (by simp at hx; omega)))
  have HF3 := Lib.hid (show res = .bad 24 ((i : Int) + 4) by rw [HF2.out, if_neg hgood])
  have HWR := Lib.hid (wrong_any 24 ((i : Int) + 4) w5 H5.out.1)
  have hfin : ∀ w6, RCur w6 g K i 24 ((i : Int) + 4) → Only [g] w5 w6 → ((∀ o, w6.cell? ⟨w.heap.size, o, none⟩ = (#[.int .i64 0, .int .i64 0, .string ⟨#[]⟩, .slice none 0 0, .slice none 0 0] : Array Value)[o]?) ∧ (∀ o, w6.frozen? ⟨w.heap.size, o, none⟩ = false) ∧ (∀ o, w6.cell? ⟨g, o, none⟩ = (#[.slice K.a K.bs.length K.c, .int .i64 i, .int .i64 24, .int .i64 ((i : Int) + 4)] : Array Value)[o]?) ∧ (∀ o, w6.frozen? ⟨g, o, none⟩ = false)) := fun w6 hc6 ho6 => ⟨HW.out w6 (O15.out.trans ho6), HY.out w6 (O15.out.trans ho6), row_cells hc6.row, rowf hc6.row⟩
  have HFIN := Lib.hid hfin
  clear hfin
  have hcase : x ≠ 0 ∨ (x = 0 ∧ v = false) := by
    by_cases h : x = 0
    · exact .inr ⟨h, by cases v <;> simp_all⟩
    · exact .inl h
  clear hgood
  rcases hcase with hx0 | ⟨rfl, rfl⟩
  · have hxb : (x != 0) = true := by simpa using hx0
    go_wp2_with fail
    refine HWR.out.mono ?_
    rintro e w6 ⟨rfl, hc6, ho6⟩
    obtain ⟨x6, y6, c6, f6⟩ := HFIN.out w6 hc6 ho6
    have oA : Only [g] w1 (w6.setCell ⟨g, 1, none⟩ (.int .i64 ((i : Int) + 4 + N))) := (O15.out.trans ho6).setCell (p := ⟨g, 1, none⟩) (.inl (by simp)) _
    have xA := HW.out _ oA
    have yA := HY.out _ oA
    have HOA := Lib.hid oA
    have HG6 := Lib.hid (show w6.setCell ⟨g, 1, none⟩ (.int .i64 ((i : Int) + 4 + N)) = w6.setCell ⟨g, 1, none⟩ (.int .i64 ((i + (4 + N) : Nat) : Int)) by congr 2; omega)
    have HC6 := Lib.hid hc6
    clear oA hc6 ho6 x5 y5 hc50 hc51 f5 hcx5 hcx6
    go_wp2_with fail
    have cp := row_cells (put5row (HX.out _ HOA.out) (.int .i64 4) (.int .i64 0) (.string s) (.slice none 0 0) (.slice none 0 0))
    refine bodyPost_ret (v := .agg #[.int .i64 4, .int .i64 0, .string s, .slice none 0 0, .slice none 0 0]) (by simp [results, Tryd.results73, go_sem, cp]) rfl ?_
    rw [HG6.out] at HOA ⊢
    have oW := put5only (w6.setCell ⟨g, 1, none⟩ (.int .i64 ((i + (4 + N) : Nat) : Int))) w.heap.size (.int .i64 4) (.int .i64 0) (.string s) (.slice none 0 0) (.slice none 0 0)
    exact .bad (t := T.mk 4 0 s none 0 [] none 0 []) HF3.out (by decide) (HC.out.past (HC6.out.at_ (i + (4 + N))) oW (by simp)) ((H1.out.2.2.2.trans HOA.out).then_ oW (fun x hx => .inr (by simp at hx; omega)))
  · go_wp2_with fail
    refine HWR.out.mono ?_
    rintro e w6 ⟨rfl, hc6, ho6⟩
    obtain ⟨x6, y6, c6, f6⟩ := HFIN.out w6 hc6 ho6
    have oA : Only [g] w1 (w6.setCell ⟨g, 1, none⟩ (.int .i64 ((i : Int) + 4 + N))) := (O15.out.trans ho6).setCell (p := ⟨g, 1, none⟩) (.inl (by simp)) _
    have xA := HW.out _ oA
    have yA := HY.out _ oA
    have HOA := Lib.hid oA
    have HG6 := Lib.hid (show w6.setCell ⟨g, 1, none⟩ (.int .i64 ((i : Int) + 4 + N)) = w6.setCell ⟨g, 1, none⟩ (.int .i64 ((i + (4 + N) : Nat) : Int)) by congr 2; omega)
    have HC6 := Lib.hid hc6
    clear oA hc6 ho6 x5 y5 hc50 hc51 f5 hcx5 hcx6
    go_wp2_with fail
    have cp := row_cells (put5row (HX.out _ HOA.out) (.int .i64 4) (.int .i64 0) (.string s) (.slice none 0 0) (.slice none 0 0))
    refine bodyPost_ret (v := .agg #[.int .i64 4, .int .i64 0, .string s, .slice none 0 0, .slice none 0 0]) (by simp [results, Tryd.results73, go_sem, cp]) rfl ?_
    rw [HG6.out] at HOA ⊢
    have oW := put5only (w6.setCell ⟨g, 1, none⟩ (.int .i64 ((i + (4 + N) : Nat) : Int))) w.heap.size (.int .i64 4) (.int .i64 0) (.string s) (.slice none 0 0) (.slice none 0 0)
    exact .bad (t := T.mk 4 0 s none 0 [] none 0 []) HF3.out (by decide) (HC.out.past (HC6.out.at_ (i + (4 + N))) oW (by simp)) ((H1.out.2.2.2.trans HOA.out).then_ oW (fun x hx => .inr (by simp at hx; omega)))
end Go.Proofs.YtjfgmcmnpekahaaDoor
