/- The contract of awake, the small case that each law of keys begins with: no statement is proved here. -/
import Derived.Test.YtdlgngnibbaamaaDoorKAfter
import Derived.Test.YtdlgngnibbaamaaDoorKRead
namespace Go.Proofs.YtdlgngnibbaamaaDoor
open Go.RowKit
set_option maxRecDepth 100000

def intT (n : Int) : T := .mk 3 n ⟨#[]⟩ none 0 [] none 0 []
def intV (n : Int) : V := .mk 3 n ⟨#[]⟩ [] []
theorem intT_ok {n : Int} (h : okInt n) : (intT n).ok := by
  simp [intT, T.ok, T.okL, T.okD, okLen, okFar, ByteArray.size, okInt] at h ⊢
  omega
theorem intT_in {w : World} {g : Nat} {n : Int} (h : w.heap[g]? = some (.cells #[.int .i64 3, .int .i64 n, .string ⟨#[]⟩, .slice none 0 0, .slice none 0 0] 25 (0, 0))) : InL w (some ⟨g, 0, none⟩) [intT n] := by
  intro p hp
  simp [intT, T.places, T.placesL, T.placesD, laid, T.cells, at_] at hp
  rcases hp with rfl | rfl | rfl | rfl | rfl <;> simp [cell_of_row w g _ _ _ _ h]
theorem flag_in {w : World} {g : Nat} {b : Bool} (h : w.heap[g]? = some (.cells #[.bool b] 4 (0, 0))) : InF w (some ⟨g, 0, none⟩) [b] := by
  intro i x hx
  have hi := lt_of_get hx
  simp at hi
  subst hi
  simp at hx
  subst hx
  exact ⟨g, 0, rfl, by rw [row_cells h]; rfl⟩
theorem intV_right (n : Int) : rightOf (intV n) = 0 := by
  simp [intV, rightOf, sizeV, szFrom, rightV, aloneV, fitsV, Lib.toList_data]
theorem keyV_int (n : Int) : keyV (intV n) = 3 :: beB 8 (n + 9223372036854775808) := by simp [intV, keyV]
theorem key_fiveR : keyR [intV 5] [false] = [3, 128, 0, 0, 0, 0, 0, 0, 5] := by
  have e : beB 8 ((5 : Int) + 9223372036854775808) = [128, 0, 0, 0, 0, 0, 0, 5] := by decide
  simp only [keyR, keyV_int, e]
  rfl
theorem key_five : keyOf [intV 5] [false] = (0, [3, 128, 0, 0, 0, 0, 0, 0, 5]) := by
  simp [keyOf, wrongL, intV_right, key_fiveR]
theorem key_negR : keyR [intV (-1)] [true] = [252, 128, 0, 0, 0, 0, 0, 0, 0] := by
  have e : beB 8 ((-1 : Int) + 9223372036854775808) = [127, 255, 255, 255, 255, 255, 255, 255] := by decide
  simp only [keyR, keyV_int, e]
  simp [flip]
theorem key_neg : keyOf [intV (-1)] [true] = (0, [252, 128, 0, 0, 0, 0, 0, 0, 0]) := by
  simp [keyOf, wrongL, intV_right, key_negR]
theorem after_three : afterB [1, 2, 255] = [1, 3] := by simp [afterB, aftFrom]
theorem read_neg {l : List V} {c p : Int} (h : RdRel [252, 128, 0, 0, 0, 0, 0, 0, 0] [true] l c p) : l = [intV (-1)] ∧ c = 0 ∧ p = 0 := by
  have hg : ∀ x ∈ [intV (-1)], rightOf x = 0 ∧ x.fit := by
    intro x hx
    simp at hx
    subst hx
    exact ⟨intV_right _, by simp [intV, V.fit_mk, okInt]⟩
  rcases h with ⟨h, -⟩ | ⟨-, h, -⟩ | ⟨-, -, h, rfl, rfl⟩ | ⟨-, -, h, -⟩
  · simp at h
  · simp at h
  · exact ⟨(h.2 [intV (-1)] rfl hg key_negR.symm).2, rfl, rfl⟩
  · have := (h.2 [intV (-1)] rfl hg key_negR.symm).1
    cases this
theorem one_elem {w : World} {B : Nat} {a : Option Addr} {c : Nat} {ts : List T} {n : Int} (h : (holdL a c ts).Own w B) (hv : ts.map T.val = [intV n]) : ts.length = 1 ∧ ∃ g o, a = some ⟨g, o, none⟩ ∧ w.cell? ⟨g, o + 1, none⟩ = some (.int .i64 n) ∧ g < w.heap.size := by
  have hl : ts.length = 1 := by have := congrArg List.length hv; simpa using this
  have hin := (owns_in _ h.owns).parts.1
  obtain ⟨b, o, k1, n1, s1, la1, lc1, l1, da1, dc1, d1, ha, hx, -, -, x1, -, -, -⟩ := hin.five (i := 0) (by omega)
  have h2 := congrArg (·[0]?) hv
  simp only [List.getElem?_map, hx] at h2
  simp [T.val_mk, intV] at h2
  obtain ⟨-, rfl, -⟩ := h2
  exact ⟨hl, b, o, ha, by simpa using x1, by simpa using cell_lt x1⟩

set_option maxHeartbeats 8000000 in
theorem awake03_any (w : World) (hT : Tabs w) : Calls Tryd.prog 29 #[] w fun e w' => e = .returned (.bool true) ∧ Below w.heap.size w w' := by
  have HT := Lib.hid hT
  clear hT
  go_enter Tryd.func29, Tryd.ntmps29
  go_wp2_with fail
  refine (int_any _ _).mono ?_
  rintro e w1 ⟨rfl, b1⟩
  have B1 := Lib.hid ((b1.alloc b1.size (.cells #[.int .i64 3, .int .i64 5, .string ⟨#[]⟩, .slice none 0 0, .slice none 0 0] 25)).alloc (by have := b1.size; simp; omega) (.cells #[.bool false] 4))
  clear b1
  go_wp2_with fail
  refine (key_any (some ⟨w1.heap.size, 0, none⟩) 1 [intT 5] (some ⟨w1.heap.size + 1, 0, none⟩) 1 [false] _ (intT_in (heap_alloc2_old _ _ _)) (flag_in (heap_alloc2_new _ _ _)) (by simp) (by intro x hx; simp at hx; subst hx; exact intT_ok (by unfold okInt; omega)) (HT.out.then_ B1.out)).mono ?_
  rintro e w2 ⟨va, rfl, oa, b2⟩
  rw [show [intT 5].map T.val = [intV 5] from rfl, key_five] at oa ⊢
  obtain ⟨ga, ca, rfl, -⟩ := oa.form (by simp)
  have A2 := Lib.hid oa
  have B2 := Lib.hid (below_then B1.out b2)
  clear oa b2 B1
  go_wp2_with fail
  refine (int_any _ _).mono ?_
  rintro e w3 ⟨rfl, b3⟩
  have A3 := Lib.hid (A2.out.then_ b3)
  have B3 := Lib.hid (below_then B2.out b3)
  clear b3 A2 B2
  go_wp2_with fail
  have X3 := Lib.hid (below2 w3 (.cells #[.int .i64 3, .int .i64 (-1), .string ⟨#[]⟩, .slice none 0 0, .slice none 0 0] 25) (.cells #[.bool true] 4))
  refine (key_any (some ⟨w3.heap.size, 0, none⟩) 1 [intT (-1)] (some ⟨w3.heap.size + 1, 0, none⟩) 1 [true] _ (intT_in (heap_alloc2_old _ _ _)) (flag_in (heap_alloc2_new _ _ _)) (by simp) (by intro x hx; simp at hx; subst hx; exact intT_ok (by unfold okInt; omega)) ((HT.out.then_ B3.out).then_ X3.out)).mono ?_
  rintro e w4 ⟨vb, rfl, ob, b4⟩
  rw [show [intT (-1)].map T.val = [intV (-1)] from rfl, key_neg] at ob ⊢
  obtain ⟨gb, cb, rfl, -⟩ := ob.form (by simp)
  have O4 := Lib.hid ob
  have A4 := Lib.hid (A3.out.then_ (below_then X3.out b4))
  have B4 := Lib.hid (below_then B3.out (below_then X3.out b4))
  clear ob b4 A3 B3 X3
  go_wp2_with fail
  have X4 := Lib.hid (below1 w4 (.cells #[.bool true] 4))
  obtain ⟨a', c', e', ib, -, -, -⟩ := (O4.out.then_ X4.out).shape
  injection e' with e1 _ e3
  subst e1 e3
  refine (read_any (some ⟨gb, 0, none⟩) cb [252, 128, 0, 0, 0, 0, 0, 0, 0] (some ⟨w4.heap.size, 0, none⟩) 1 [true] _ ib (flag_in (heap_alloc_new _ _)) (by intro b hb; simp at hb; omega) (by simp) (by simp) ((HT.out.then_ B4.out).then_ X4.out)).mono ?_
  rintro e w5 ⟨al, cl, ts, code, place, rfl, hy, b5, hr⟩
  obtain ⟨hv, rfl, rfl⟩ := read_neg hr
  obtain ⟨hl1, gl, ol, rfl, cl1, gl1⟩ := one_elem hy hv
  rw [hl1]
  have O5 := Lib.hid (O4.out.then_ (below_then X4.out b5))
  have A5 := Lib.hid (A4.out.then_ (below_then X4.out b5))
  have B5 := Lib.hid (below_then B4.out (below_then X4.out b5))
  have L5 := Lib.hid (And.intro cl1 gl1)
  clear b5 hr hy hv cl1 gl1 A4 O4 B4 X4 ib hl1
  go_wp2_with fail
  have X5 := Lib.hid (below2 w5 (.cells #[.int .i64 0, .int .i64 0] 36) (.cells #[.int .u8 1, .int .u8 2, .int .u8 255] 5))
  have F5 : ((w5.alloc (.cells #[.int .i64 0, .int .i64 0] 36)).alloc (.cells #[.int .u8 1, .int .u8 2, .int .u8 255] 5)).heap[w5.heap.size]? = some (.cells #[.int .i64 0, .int .i64 0] 36 (0, 0)) := heap_alloc2_old _ _ _
  refine (after_any (some ⟨w5.heap.size + 1, 0, none⟩) 3 [1, 2, 255] _ (row_inB (q := [1, 2, 255]) (heap_alloc2_new _ _ _)) (by intro b hb; simp at hb; omega) (by simp) (by simp)).mono ?_
  rintro e w6 ⟨vc, rfl, oc, b6⟩
  rw [after_three] at oc
  obtain ⟨gc, cc, rfl, -⟩ := oc.form (by simp)
  have fl := row_cells (row_then F5 b6)
  have b56 := below_then X5.out b6
  have oa := A5.out.then_ b56
  have ob := O5.out.then_ b56
  have a0 := (oa.at_ (j := 0) rfl).1
  have a8 := (oa.at_ (j := 8) rfl).1
  have o0 := (ob.at_ (j := 0) rfl).1
  have c1 := (oc.at_ (j := 1) rfl).1
  have l1 := (b56.cell (p := ⟨gl, ol + 1, none⟩) L5.out.2).trans L5.out.1
  have B6 := Lib.hid (below_then B5.out b56)
  clear oa ob oc b6 b56 F5 X5 A5 O5 B5 L5
  simp only [List.length_cons, List.length_nil, Nat.reduceAdd]
  go_wp2_with fail
  go_ret
  exact ⟨rfl, B6.out⟩
#print axioms awake03_any
end Go.Proofs.YtdlgngnibbaamaaDoor
