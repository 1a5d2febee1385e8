/- The document's examples of chapter 4 as plain values and as they lie in memory: no statement is proved here. -/
import Derived.Test.YtkklnfihjikilaaDoorPathSetT
import Derived.Test.YtkklnfihjikilaaDoorPathSpl
import Derived.Test.YtkklnfihjikilaaDoorPathReach2
import Derived.Test.YtkklnfihjikilaaDoorAwake
namespace Go.Proofs.YtkklnfihjikilaaDoor
open Go.RowKit
set_option maxRecDepth 100000

def nameL : ByteArray := ⟨#[108]⟩
def name0 : ByteArray := ⟨#[48]⟩
def name1 : ByteArray := ⟨#[49]⟩
def leafV (n : Int) : V := .mk 3 n ⟨#[]⟩ [] []
def lstV : V := .mk 6 0 ⟨#[]⟩ [docV nameB 2, docV nameB 3, leafV 5] []
def exV : V := .mk 5 0 ⟨#[]⟩ [] [(nameL, lstV)]
def leafT (n : Int) : T := .mk 3 n ⟨#[]⟩ none 0 [] none 0 []
def lstT (gl g2 g3 : Nat) : T := .mk 6 0 ⟨#[]⟩ (some ⟨gl, 0, none⟩) 3 [docT g2 nameB 2, docT g3 nameB 3, leafT 5] none 0 []
def exT (gd gl g2 g3 : Nat) : T := .mk 5 0 ⟨#[]⟩ none 0 [] (some ⟨gd, 0, none⟩) 1 [(nameL, lstT gl g2 g3)]
theorem ex_val (gd gl g2 g3 : Nat) : (exT gd gl g2 g3).val = exV := rfl
theorem place_b : placeN nameB = -1 := by decide
theorem place_0 : placeN name0 = 0 := by decide
theorem place_1 : placeN name1 = 1 := by decide
theorem place_l : placeN nameL = -1 := by decide
theorem ex_reach : reachV exV [nameL, nameB] = [leafV 2, leafV 3] := by
  simp [reachV, reachS, exV, lstV, docV, leafV, metV, metFind, metEach, kindV, place_b, metNth_neg]
theorem ex_at : atO exV [nameL, name0, nameB] = some (leafV 2) := by
  simp [atO, atV, childV, exV, lstV, docV, leafV, findD, place_0]
theorem ex_set : (setO exV [nameL, name1, nameB] (leafV 7)).1 = 0 := by
  simp [setO, setV, exV, lstV, docV, leafV, findD, place_1]
theorem ex_at2 {s : V} (h : setO exV [nameL, name1, nameB] (leafV 7) = (0, s)) : atO s [nameL, name1, nameB] = some (leafV 7) := by
  unfold setO at h
  rw [if_neg (by simp)] at h
  unfold atO
  rw [if_neg (by simp)]
  exact at_set _ _ _ _ h
theorem ex_split : splitP ⟨#[97, 46, 98]⟩ = [nameA, nameB] := by decide
theorem ex_right (s : ByteArray) (h : nameOk s = true) : rightOf (oneV s) = 0 := by
  have h0 : (ByteArray.mk #[]).size = 0 := rfl
  have h1 : s.size ≤ 100 := by
    unfold nameOk at h
    simp at h
    exact h.2.1
  have h2 : ¬ (65536 : Int) < 5 + 2 + s.size := by omega
  simp [oneV, nullV, rightOf, sizeV, szFrom, szD, rightV, rightD, aloneV, fitsV, Lib.toList_data, h]
  omega
theorem ex_splitOk : splitOk ⟨#[97, 46, 98]⟩ = true := by
  unfold splitOk
  rw [ex_split]
  have ha : nameOk nameA = true := by unfold nameOk; rw [Lib.toList_data]; decide
  have hb : nameOk nameB = true := by unfold nameOk; rw [Lib.toList_data]; decide
  have pa : Lib.hasPrefix nameA.data.toList [36] = false := by decide
  have pb : Lib.hasPrefix nameB.data.toList [36] = false := by decide
  simp [partOk, ex_right, ha, hb, pa, pb]
theorem ex_room (gd gl g2 g3 : Nat) : RoomAt (exT gd gl g2 g3) [nameL, name1, nameB] := by
  refine ⟨by simp [exT, docLen], fun j y hy => ?_⟩
  have hy2 : y = lstT gl g2 g3 := by
    simp only [exT, kidT, if_pos] at hy
    cases j with
    | zero => simpa using hy.symm
    | succ j => simp at hy
  subst hy2
  refine ⟨by simp [lstT, docLen], fun j2 y2 hy2 => ⟨?_, fun _ _ _ => trivial⟩⟩
  simp only [lstT, kidT] at hy2
  have hm := List.mem_of_getElem? hy2
  simp only [List.mem_cons, List.not_mem_nil, or_false] at hm
  rcases hm with rfl | rfl | rfl <;> simp [docT, leafT, docLen]
theorem inL_row {w : World} {g : Nat} {l : List T} {t : TypeId} (h : w.heap[g]? = some (.cells (l.flatMap T.cells).toArray t (0, 0))) (hk : ∀ x ∈ l, x.In w) : InL w (some ⟨g, 0, none⟩) l := by
  intro p hp
  obtain ⟨i, x, hx, hp⟩ := (T.mem_placesL _ _ _ _).1 hp
  rcases hp with hp | hp
  · obtain ⟨j, c, hc, rfl⟩ := mem_laid.1 hp
    have hjl := lt_of_get hc
    rw [cells_len] at hjl
    have hg : (l.flatMap T.cells)[i * 5 + j]? = some c := (flatMap_get T.cells 5 cells_len l i x hx j hjl).trans hc
    have := row_cells h (i * 5 + j)
    simp only [Nat.zero_add, at_]
    rw [this, List.getElem?_toArray, hg]
  · exact hk x (List.mem_of_getElem? hx) p hp
theorem inD_row {w : World} {g : Nat} {d : List (ByteArray × T)} {t : TypeId} (h : w.heap[g]? = some (.cells (d.flatMap fcells).toArray t (0, 0))) (hk : ∀ x ∈ d, x.2.In w) : InD w (some ⟨g, 0, none⟩) d := by
  intro p hp
  obtain ⟨i, x, hx, hp⟩ := (T.mem_placesD _ _ _ _).1 hp
  rcases hp with hp | hp
  · obtain ⟨j, c, hc, rfl⟩ := mem_laid.1 hp
    have hjl := lt_of_get hc
    rw [fcells_len] at hjl
    have hg : (d.flatMap fcells)[i * 6 + j]? = some c := (flatMap_getD fcells 6 fcells_len d i x hx j hjl).trans hc
    have := row_cells h (i * 6 + j)
    simp only [Nat.zero_add, at_]
    rw [this, List.getElem?_toArray, hg]
  · exact hk x (List.mem_of_getElem? hx) p hp
theorem leaf_in (w : World) (n : Int) : (leafT n).In w := fun p hp => by simp [leafT, T.places, T.placesL, T.placesD] at hp
theorem ex_in {w : World} {gd gl g2 g3 : Nat} {t1 t2 : TypeId} (h2 : w.heap[g2]? = some (.cells #[.string nameB, .int .i64 3, .int .i64 2, .string ⟨#[]⟩, .slice none 0 0, .slice none 0 0] 52 (0, 0))) (h3 : w.heap[g3]? = some (.cells #[.string nameB, .int .i64 3, .int .i64 3, .string ⟨#[]⟩, .slice none 0 0, .slice none 0 0] 52 (0, 0)))
    (hl : w.heap[gl]? = some (.cells ([docT g2 nameB 2, docT g3 nameB 3, leafT 5].flatMap T.cells).toArray t1 (0, 0))) (hd : w.heap[gd]? = some (.cells ([(nameL, lstT gl g2 g3)].flatMap fcells).toArray t2 (0, 0))) : (exT gd gl g2 g3).In w := by
  refine T.In.of_parts (fun p hp => by simp [T.placesL] at hp) (inD_row hd fun x hx => ?_)
  rw [List.mem_singleton.1 hx]
  refine T.In.of_parts (inL_row hl fun x hx => ?_) (fun p hp => by simp [T.placesD] at hp)
  simp only [List.mem_cons, List.not_mem_nil, or_false] at hx
  rcases hx with rfl | rfl | rfl
  · exact docT_in h2
  · exact docT_in h3
  · exact leaf_in w 5
theorem ex_ok (gd gl g2 g3 : Nat) : (exT gd gl g2 g3).ok := by
  have h0 : (ByteArray.mk #[]).size = 0 := rfl
  have h1 : nameL.size = 1 := rfl
  have h2 : nameB.size = 1 := rfl
  simp [exT, lstT, leafT, docT, T.ok, T.okL, T.okD, okInt, okLen, okFar, h0, h1, h2]
theorem leaf_ok {n : Int} (h : okInt n) : (leafT n).ok := by
  have h0 : (ByteArray.mk #[]).size = 0 := rfl
  simp [leafT, T.ok, T.okL, T.okD, okInt, okLen, okFar, h0] at h ⊢
  omega
end Go.Proofs.YtkklnfihjikilaaDoor
