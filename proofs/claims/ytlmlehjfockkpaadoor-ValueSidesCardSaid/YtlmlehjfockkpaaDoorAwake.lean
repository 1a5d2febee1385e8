/- The contract of awake, the small case that each law begins with: no statement is proved here. -/
import Derived.Test.YtlmlehjfockkpaaDoorRight2
import Derived.Test.YtlmlehjfockkpaaDoorGet
import Derived.Test.YtlmlehjfockkpaaDoorCmp2
namespace Go.Proofs.YtlmlehjfockkpaaDoor
open Go.RowKit
set_option maxRecDepth 100000

theorem int_any (n : Int) (w : World) : Calls Tryd.prog 47 #[.int .i64 n] w fun e w' => e = .returned (.agg #[.int .i64 3, .int .i64 n, .string ⟨#[]⟩, .slice none 0 0, .slice none 0 0]) ∧ Below w.heap.size w w' := by
  go_enter Tryd.func47, Tryd.ntmps47
  go_wp2_with fail
  exact bodyPost_ret (v := .agg #[.int .i64 3, .int .i64 n, .string ⟨#[]⟩, .slice none 0 0, .slice none 0 0]) (by simp [results, Tryd.results47, go_sem]) rfl ⟨rfl, below1 _ _⟩
/-- A document of one field, in a block of its own. -/
def DocTo (s : ByteArray) (n : Int) (w : World) (e : Ending) (w' : World) : Prop := ∃ g, e = .returned (.agg #[.int .i64 5, .int .i64 0, .string ⟨#[]⟩, .slice none 0 0, .slice (some ⟨g, 0, none⟩) 1 1]) ∧ w'.heap[g]? = some (.cells #[.string s, .int .i64 3, .int .i64 n, .string ⟨#[]⟩, .slice none 0 0, .slice none 0 0] 63 (0, 0)) ∧ Below w.heap.size w w'
theorem doc_any (s : ByteArray) (n : Int) (w : World) : Calls Tryd.prog 46 #[.string s, .agg #[.int .i64 3, .int .i64 n, .string ⟨#[]⟩, .slice none 0 0, .slice none 0 0]] w (DocTo s n w) := by
  go_enter Tryd.func46, Tryd.ntmps46
  go_wp2_with fail
  refine bodyPost_ret (v := .agg #[.int .i64 5, .int .i64 0, .string ⟨#[]⟩, .slice none 0 0, .slice (some ⟨w.heap.size + 1 + 1, 0, none⟩) 1 1]) (by simp [results, Tryd.results46, go_sem]) rfl ⟨_, rfl, ?_, below3 _ _ _ _⟩
  exact heap_alloc_at _ _ _ (by simp)

/-- The document of one field as it lies in memory. -/
def docT (g : Nat) (s : ByteArray) (n : Int) : T := .mk 5 0 ⟨#[]⟩ none 0 [] (some ⟨g, 0, none⟩) 1 [(s, .mk 3 n ⟨#[]⟩ none 0 [] none 0 [])]
theorem docT_in {w : World} {g : Nat} {s : ByteArray} {n : Int} (h : w.heap[g]? = some (.cells #[.string s, .int .i64 3, .int .i64 n, .string ⟨#[]⟩, .slice none 0 0, .slice none 0 0] 63 (0, 0))) : (docT g s n).In w := by
  intro p hp
  simp [docT, T.places, T.placesL, T.placesD, laid, fcells, T.cells, at_] at hp
  rcases hp with rfl | rfl | rfl | rfl | rfl | rfl <;> simp [cell_of_row w g _ _ _ _ h]
theorem docT_ok {g : Nat} {s : ByteArray} {n : Int} (hn : okInt n) (hs : okLen s.size) : (docT g s n).ok := by
  have h0 : (ByteArray.mk #[]).size = 0 := rfl
  simp [docT, T.ok, T.okL, T.okD, okInt, okLen, okFar, h0] at hn hs ⊢
  omega

def nameA : ByteArray := ⟨#[97]⟩
def nameB : ByteArray := ⟨#[98]⟩
def docV (s : ByteArray) (n : Int) : V := .mk 5 0 ⟨#[]⟩ [] [(s, .mk 3 n ⟨#[]⟩ [] [])]
theorem docT_val (g : Nat) (s : ByteArray) (n : Int) : (docT g s n).val = docV s n := rfl
theorem awake_cmp : cmpV (docV nameA 1) (docV nameB 0) = -1 := by
  simp [docV, cmpV, cmpD, cmpF, cmpS, ltS, Lib.toList_data, nameA, nameB, Op.bytesLess]
theorem awake_right : rightOf (docV ⟨#[]⟩ 1) = 11 := by
  have h0 : (ByteArray.mk #[]).size = 0 := rfl
  simp [docV, rightOf, sizeV, szFrom, szD, rightV, rightD, nameOk, aloneV, fitsV, Lib.toList_data, h0]
theorem awake_size : sizeV (docV nameA 1) = 16 := by
  have h0 : nameA.size = 1 := rfl
  simp [docV, sizeV, szFrom, szD, h0]
theorem awake_get : getV (docV nameA 1) nameA = some (.mk 3 1 ⟨#[]⟩ [] []) := by
  simp [docV, getV, findD]

set_option maxHeartbeats 2000000 in
theorem awake_any (w : World) (hT : Tabs w) : Calls Tryd.prog 14 #[] w fun e w' => e = .returned (.bool true) ∧ Below w.heap.size w w' := by
  have za : okLen nameA.size := by unfold okLen nameA; decide
  have zb : okLen nameB.size := by unfold okLen nameB; decide
  have z0 : okLen (ByteArray.mk #[]).size := by unfold okLen; decide
  have i0 : okInt 0 := by unfold okInt; omega
  have i1 : okInt 1 := by unfold okInt; omega
  replace za := Lib.hid za
  replace zb := Lib.hid zb
  replace z0 := Lib.hid z0
  replace i0 := Lib.hid i0
  replace i1 := Lib.hid i1
  go_enter Tryd.func14, Tryd.ntmps14
  go_wp2_with fail
  refine (int_any _ _).mono ?_
  rintro e w1 ⟨rfl, b1⟩
  go_wp2_with fail
  refine (doc_any nameA _ _).mono ?_
  rintro e w2 ⟨g1, rfl, q2, b2⟩
  have e2 : Below w.heap.size w w2 := below_then b1 b2
  have Q1 := Lib.hid (row_then q2 (below1 w2 (.cells #[.int .i64 5, .int .i64 0, .string ⟨#[]⟩, .slice none 0 0, .slice (some ⟨g1, 0, none⟩) 1 1] 25)))
  have R1 := Lib.hid (heap_alloc_new w2 (.cells #[.int .i64 5, .int .i64 0, .string ⟨#[]⟩, .slice none 0 0, .slice (some ⟨g1, 0, none⟩) 1 1] 25))
  clear q2 b1 b2
  go_wp2_with fail
  refine (int_any _ _).mono ?_
  rintro e w3 ⟨rfl, b3⟩
  go_wp2_with fail
  refine (doc_any nameB _ _).mono ?_
  rintro e w4 ⟨g2, rfl, q4, b4⟩
  have b34 := below_then b3 b4
  have e4 : Below w.heap.size w w4 := below_then (below_then e2 (below1 _ _)) b34
  replace Q1 := Lib.hid (row_then Q1.out b34)
  replace R1 := Lib.hid (row_then R1.out b34)
  have k4 := row_cells R1.out
  have Q2 := Lib.hid (row_then q4 (below1 w4 (.cells #[.int .i64 5, .int .i64 0, .string ⟨#[]⟩, .slice none 0 0, .slice (some ⟨g2, 0, none⟩) 1 1] 25)))
  have s4 : w2.heap.size < w4.heap.size := lt_of_block R1.out
  clear q4 b3 b4 b34
  go_wp2_with fail
  refine (compare_any (docT g1 nameA 1) (docT g2 nameB 0) _ (docT_ok i1.out za.out) (docT_ok i0.out zb.out) ((docT_in Q1.out).then_ (below1 _ _)) (docT_in Q2.out)).mono ?_
  rintro e w5 ⟨rfl, b5⟩
  have e5 : Below w.heap.size w w5 := below_then (below_then e4 (below1 _ _)) b5
  have b45 := below_then (below1 w4 _) b5
  replace Q1 := Lib.hid (row_then Q1.out b45)
  replace R1 := Lib.hid (row_then R1.out b45)
  rw [docT_val, docT_val, awake_cmp]
  clear b5 b45 k4 s4 Q2
  go_wp2_with fail
  refine (int_any _ _).mono ?_
  rintro e w6 ⟨rfl, b6⟩
  go_wp2_with fail
  refine (doc_any ⟨#[]⟩ _ _).mono ?_
  rintro e w7 ⟨g3, rfl, q7, b7⟩
  have b57 := below_then b6 b7
  have e7 : Below w.heap.size w w7 := below_then e5 b57
  replace Q1 := Lib.hid (row_then Q1.out b57)
  replace R1 := Lib.hid (row_then R1.out b57)
  have Q3 := Lib.hid q7
  clear q7 b6 b7 b57
  go_wp2_with fail
  refine (right_any (docT g3 ⟨#[]⟩ 1) (docT_ok i1.out z0.out) _ (docT_in Q3.out) (hT.then_ e7)).mono ?_
  rintro e w8 ⟨rfl, b8⟩
  have e8 : Below w.heap.size w w8 := below_then e7 b8
  replace Q1 := Lib.hid (row_then Q1.out b8)
  replace R1 := Lib.hid (row_then R1.out b8)
  have k8 := row_cells R1.out
  rw [docT_val, awake_right]
  clear b8 Q3
  go_wp2_with fail
  refine (size_any (docT g1 nameA 1) (docT_ok i1.out za.out) _ (docT_in Q1.out)).mono ?_
  rintro e w9 ⟨rfl, b9⟩
  have e9 : Below w.heap.size w w9 := below_then e8 b9
  replace Q1 := Lib.hid (row_then Q1.out b9)
  replace R1 := Lib.hid (row_then R1.out b9)
  have k9 := row_cells R1.out
  rw [docT_val, awake_size]
  clear b9 k8
  go_wp2_with fail
  refine (get_any (docT g1 nameA 1) (docT_ok i1.out za.out) nameA _ (docT_in Q1.out)).mono ?_
  rintro e w10 (⟨hn, rfl, b10⟩ | ⟨⟨k', n', s', la', lc', l', da', dc', d'⟩, hv, rfl, -, b10⟩)
  · rw [docT_val, awake_get] at hn
    cases hn
  · rw [docT_val, awake_get, T.val_mk] at hv
    simp only [Option.some.injEq, V.mk.injEq] at hv
    obtain ⟨rfl, rfl, rfl, -, -⟩ := hv
    have e10 : Below w.heap.size w w10 := below_then e9 b10
    dsimp only [T.arg, T.cells]
    clear b10 k9
    go_wp2_with fail
    go_ret
    exact ⟨rfl, below_then e10 (below1 _ _)⟩
end Go.Proofs.YtlmlehjfockkpaaDoor
