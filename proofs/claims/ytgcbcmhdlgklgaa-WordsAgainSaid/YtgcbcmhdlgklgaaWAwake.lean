/- The small case that each law of layer 9 begins with. No statement is proved here. -/
import Derived.Test.YtgcbcmhdlgklgaaWAwV
import Derived.Test.YtgcbcmhdlgklgaaWTermsG
import Derived.Test.YtgcbcmhdlgklgaaWScoreG
namespace Go.Proofs.Ytgcbcmhdlgklgaa
open Go.RowKit Go.Lib
set_option maxRecDepth 100000

def txtA (s : ByteArray) : Value := .agg #[.int .i64 4, .int .i64 0, .string s, .slice none 0 0, .slice none 0 0]
theorem textP_any (s : ByteArray) (w : World) : Calls Try.prog 9 #[.string s] w fun e w' => e = .returned (txtA s) ∧ Below w.heap.size w w' := by
  go_enter Try.func9, Try.ntmps9
  go_wp2
  exact bodyPost_ret (v := txtA s) (by simp [results, Try.results9, go_sem, txtA]) rfl ⟨rfl, below1 _ _⟩
theorem heap_alloc_is (W : World) (o : Obj) (k : Nat) (h : k = W.heap.size) : (W.alloc o).heap[k]? = some o := by subst h; exact World.alloc_heap_new W o
theorem docP_any (s sx : ByteArray) (w : World) : Calls Try.prog 11 #[.string s, txtA sx] w fun e w' =>
    ∃ g, e = .returned (.agg #[.int .i64 5, .int .i64 0, .string ⟨#[]⟩, .slice none 0 0, .slice (some ⟨g, 0, none⟩) 1 1]) ∧ w'.heap[g]? = some (.cells #[.string s, .int .i64 4, .int .i64 0, .string sx, .slice none 0 0, .slice none 0 0] 52 (0, 0)) ∧ Below w.heap.size w w' := by
  unfold txtA
  go_enter Try.func11, Try.ntmps11
  go_wp2_with fail
  refine bodyPost_ret (v := .agg #[.int .i64 5, .int .i64 0, .string ⟨#[]⟩, .slice none 0 0, .slice (some ⟨w.heap.size + 1 + 1, 0, none⟩) 1 1]) (by simp [results, Try.results11, go_sem]) rfl ⟨_, rfl, ?_, ?_⟩
  · exact heap_alloc_is _ _ _ (by simp)
  · exact (((Below.refl _ w).alloc (Nat.le_refl _) _).alloc (by simp) _).alloc (by simp; omega) _
def txtT (s : ByteArray) : T := .mk 4 0 s none 0 [] none 0 []
def exT (g gd : Nat) : T := .mk 6 0 ⟨#[]⟩ (some ⟨g, 0, none⟩) 2 [txtT ⟨#[98, 32, 97]⟩, .mk 5 0 ⟨#[]⟩ none 0 [] (some ⟨gd, 0, none⟩) 1 [(⟨#[107]⟩, txtT ⟨#[65, 32, 99]⟩)]] none 0 []
theorem exT_val (g gd : Nat) : (exT g gd).val = exV := rfl
theorem txtT_ok (s : ByteArray) (h : s.size ≤ 1000) : (txtT s).ok := by
  simp [txtT, T.ok, T.okL, T.okD, okInt, okLen, okFar]
  omega
theorem exT_ok (g gd : Nat) : (exT g gd).ok := by
  have h0 : (ByteArray.mk #[]).size = 0 := rfl
  have h1 : (ByteArray.mk #[98, 32, 97]).size = 3 := rfl
  have h2 : (ByteArray.mk #[107]).size = 1 := rfl
  have h3 : (ByteArray.mk #[65, 32, 99]).size = 3 := rfl
  simp [exT, txtT, T.ok, T.okL, T.okD, okInt, okLen, okFar, h0, h1, h2, h3]
theorem txtT_in (s : ByteArray) (w : World) : (txtT s).In w := by
  intro p hp
  simp [txtT, T.places, T.placesL, T.placesD] at hp
theorem exT_in {w : World} {g gd : Nat} (h : w.heap[g]? = some (.cells #[.int .i64 4, .int .i64 0, .string ⟨#[98, 32, 97]⟩, .slice none 0 0, .slice none 0 0, .int .i64 5, .int .i64 0, .string ⟨#[]⟩, .slice none 0 0, .slice (some ⟨gd, 0, none⟩) 1 1] 30 (0, 0)))
    (hd : w.heap[gd]? = some (.cells #[.string ⟨#[107]⟩, .int .i64 4, .int .i64 0, .string ⟨#[65, 32, 99]⟩, .slice none 0 0, .slice none 0 0] 52 (0, 0))) : (exT g gd).In w := by
  have c := row_cells h
  have d := row_cells hd
  intro p hp
  simp [exT, txtT, T.places, T.placesL, T.placesD, laid, fcells, T.cells, at_] at hp
  rcases hp with rfl | rfl | rfl | rfl | rfl | rfl | rfl | rfl | rfl | rfl | rfl | rfl | rfl | rfl | rfl | rfl <;> simp [c, d]
theorem own_cell {w : World} {B : Nat} {v : Value} {ws : List (List Int)} (h : OwnS w B v ws) (hl : 1 ≤ ws.length) : ∃ g c, v = .slice (some ⟨g, 0, none⟩) ws.length c ∧ ∀ i x, ws[i]? = some x → w.cell? ⟨g, i, none⟩ = some (.string (strOfNums x)) := by
  obtain ⟨a, c, hv, hi, ha, -, h0⟩ := h.shape
  rcases ha with rfl | ⟨g, rfl⟩
  · have := (h0 rfl).2
    subst this
    simp at hl
  · refine ⟨g, c, hv, fun i x hx => ?_⟩
    obtain ⟨b, o, e, hc⟩ := hi i x hx
    injection e with e
    injection e with e1 e2
    subst e1
    subst e2
    rw [Nat.zero_add] at hc
    exact hc
set_option maxHeartbeats 8000000 in
theorem awake9_any (w : World) : Calls Try.prog 5 #[] w fun e w' => e = .returned (.bool true) ∧ Below w.heap.size w w' := by
  have z0 : exS.size = 15 := rfl
  have z1 : (ByteArray.mk #[65, 32, 120]).size = 3 := rfl
  have hS := psplit_any exS w (by omega)
  rw [ex_words] at hS
  have hS := Lib.hid hS
  go_enter Try.func5, Try.ntmps5
  go_wp2_with fail
  refine hS.out.mono ?_
  rintro e w1 ⟨v1, rfl, o1, b1⟩
  obtain ⟨g1, c1, rfl, k1⟩ := own_cell o1 (by simp)
  have q0 : w1.cell? ⟨g1, 0, none⟩ = some (.string ⟨#[97, 98]⟩) := k1 0 [97, 98] rfl
  have q3 : w1.cell? ⟨g1, 3, none⟩ = some (.string ⟨#[195, 169, 116, 195, 169]⟩) := k1 3 [195, 169, 116, 195, 169] rfl
  have B1 := Lib.hid (And.intro b1 (And.intro q0 q3))
  clear o1 b1 k1 q0 q3 hS z0
  simp only [List.length_cons, List.length_nil, Nat.reduceAdd]
  go_wp2_with fail
  refine (textP_any _ w1).mono ?_
  rintro e w2 ⟨rfl, b2⟩
  have hC := score_any (txtT ⟨#[97, 32, 98, 32, 97, 32, 99]⟩) (txtT_ok _ (by decide)) ⟨#[65, 32, 120]⟩ (by omega) w2 (txtT_in _ _) (by
    have : allW (T.val (txtT ⟨#[97, 32, 98, 32, 97, 32, 99]⟩)) = [[97], [98], [97], [99]] := by decide +kernel
    rw [this]; simp)
  rw [show scoreW (allW (T.val (txtT ⟨#[97, 32, 98, 32, 97, 32, 99]⟩))) (splitL (bsI ⟨#[65, 32, 120]⟩)) = 2 from ex_score] at hC
  have hC := Lib.hid hC
  have B2 := Lib.hid b2
  clear b2
  unfold txtA
  go_wp2_with fail
  refine hC.out.mono ?_
  rintro e w3 ⟨rfl, b3⟩
  have B3 := Lib.hid b3
  clear b3 hC
  go_wp2_with fail
  refine (textP_any _ w3).mono ?_
  rintro e w4 ⟨rfl, b4⟩
  have B4 := Lib.hid b4
  clear b4
  go_wp2_with fail
  refine (textP_any _ w4).mono ?_
  rintro e w5 ⟨rfl, b5⟩
  have B5 := Lib.hid b5
  clear b5
  go_wp2_with fail
  refine (docP_any _ _ w5).mono ?_
  rintro e w6 ⟨gd, rfl, hd, b6⟩
  have B6 := Lib.hid (And.intro hd b6)
  clear hd b6
  unfold txtA
  go_wp2_with fail
  obtain ⟨w7, hw7⟩ : ∃ w7, w6.alloc (.cells #[.int .i64 4, .int .i64 0, .string ⟨#[98, 32, 97]⟩, .slice none 0 0, .slice none 0 0, .int .i64 5, .int .i64 0, .string ⟨#[]⟩, .slice none 0 0, .slice (some ⟨gd, 0, none⟩) 1 1] 30) = w7 := ⟨_, rfl⟩
  have b7 : Below w6.heap.size w6 w7 := by rw [← hw7]; exact below1 _ _
  have hin : (exT w6.heap.size gd).In w7 := exT_in (by rw [← hw7]; exact heap_alloc_new w6 _) ((b7.block gd (Array.getElem?_eq_some_iff.1 B6.out.1).1).trans B6.out.1)
  rw [hw7]
  have hT := pterms_any (exT w6.heap.size gd) (exT_ok _ _) w7 hin (by rw [exT_val, ex_all]; simp)
  rw [exT_val, ex_terms] at hT
  have hT := Lib.hid hT
  have bb : Below w.heap.size w w7 := below_then (below_then (below_then (below_then (below_then (below_then B1.out.1 B2.out) B3.out) B4.out) B5.out) B6.out.2) b7
  have b17 : Below w1.heap.size w1 w7 := below_then (below_then (below_then (below_then (below_then B2.out B3.out) B4.out) B5.out) B6.out.2) b7
  have BB := Lib.hid (And.intro bb b17)
  clear hin bb b17 b7
  refine hT.out.mono ?_
  rintro e w8 ⟨⟨v8, rfl, o8⟩, b8⟩
  obtain ⟨a8, c8, rfl, k8⟩ := o8.form
  obtain ⟨g8, rfl, -, -, n0⟩ := k8 0 ([97], 2) rfl
  obtain ⟨g9, e9, -, n2, -⟩ := k8 2 ([99], 1) rfl
  injection e9 with e9
  injection e9 with e9
  subst e9
  have m0 : w8.cell? ⟨g8, 1, none⟩ = some (.int .i64 2) := n0
  have m2 : w8.cell? ⟨g8, 4, none⟩ = some (.string ⟨#[99]⟩) := n2
  have b18 := below_then BB.out.2 b8
  have p0 : w8.cell? ⟨g1, 0, none⟩ = some (.string ⟨#[97, 98]⟩) := (b18.cell (cell_lt B1.out.2.1)).trans B1.out.2.1
  have p3 : w8.cell? ⟨g1, 3, none⟩ = some (.string ⟨#[195, 169, 116, 195, 169]⟩) := (b18.cell (cell_lt B1.out.2.2)).trans B1.out.2.2
  have BE := Lib.hid (below_then BB.out.1 b8)
  clear b18 b8 n0 n2 k8 o8 hT
  simp only [List.length_cons, List.length_nil, Nat.reduceAdd]
  go_wp2_with fail
  go_ret
  exact ⟨rfl, BE.out⟩
#print axioms awake9_any
end Go.Proofs.Ytgcbcmhdlgklgaa
