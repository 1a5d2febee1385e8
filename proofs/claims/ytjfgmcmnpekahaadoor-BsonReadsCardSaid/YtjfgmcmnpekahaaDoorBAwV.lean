/- The document's examples of layer 2, as plain facts. No statement is proved here. -/
import Derived.Test.YtjfgmcmnpekahaaDoorBWrite
import Derived.Test.YtjfgmcmnpekahaaDoorBAll
namespace Go.Proofs.YtjfgmcmnpekahaaDoor
open Go.RowKit
set_option maxRecDepth 100000

def exB : List Int := [14, 0, 0, 0, 2, 97, 0, 2, 0, 0, 0, 98, 0, 0]
def exC : List Int := [8, 0, 0, 0, 11, 97, 0, 0]
def exV : V := .mk 5 0 ⟨#[]⟩ [] [(nameA, .mk 4 0 nameB [] [])]
theorem validA : Lib.validD [97] = true := by decide +kernel
theorem validB : Lib.validD [98] = true := by decide +kernel
theorem ex_right1 : rightOf (docV nameA 1) = 0 := by
  have h0 : nameA.size = 1 := rfl
  have h1 : nameA.data.toList = [97] := rfl
  simp [docV, rightOf, sizeV, szFrom, szD, rightV, rightD, nameOk, aloneV, fitsV, Lib.toList_data, h0, h1, validA, Lib.indexByte]
theorem ex_right2 : rightOf exV = 0 := by
  have h0 : nameA.size = 1 := rfl
  have h1 : nameA.data.toList = [97] := rfl
  have h2 : nameB.size = 1 := rfl
  have h3 : nameB.data.toList = [98] := rfl
  simp [exV, rightOf, sizeV, szFrom, szD, rightV, rightD, nameOk, aloneV, fitsV, Lib.toList_data, h0, h1, h2, h3, validA, validB, Lib.indexByte]
theorem ex_enc1 : encOf (docV nameA 1) = (0, [16, 0, 0, 0, 18, 97, 0, 1, 0, 0, 0, 0, 0, 0, 0, 0]) := by
  have hr := ex_right1
  unfold docV at hr ⊢
  rw [encOf, if_pos rfl, if_pos hr]
  have h : bsI nameA = [97] := rfl
  simp [encV, encD, kByte, kindB, h, leB]
theorem ex_enc2 : encV exV = exB := by
  have h : bsI nameA = [97] := rfl
  have h2 : bsI nameB = [98] := rfl
  have h3 : nameB.size = 1 := rfl
  simp [exV, encV, encD, kByte, kindB, h, h2, h3, leB, exB]
theorem ex_dec2 : decF 40 exB = .ok exV 14 := by
  have hb := doc_back (d := [(nameA, .mk 4 0 nameB [] [])]) (by simp [V.fit_mk, okInt]) ex_right2 [] 0 (n := 40) (by rw [show V.mk 5 0 ⟨#[]⟩ [] [(nameA, .mk 4 0 nameB [] [])] = exV from rfl, ex_enc2]; decide)
  rw [show V.mk 5 0 ⟨#[]⟩ [] [(nameA, .mk 4 0 nameB [] [])] = exV from rfl, ex_enc2] at hb
  have hb' : docF 40 false 1 exB 0 = .ok [(nameA, .mk 4 0 nameB [] [])] 14 := by rw [List.append_nil] at hb; exact hb
  unfold decF readF
  simp only [Int.toNat_zero, List.drop_zero]
  rw [hb']
  simp [exB, exV]
theorem ex_dec3 : decF 40 exC = .bad 22 4 := by
  simp [decF, readF, docF, fldF, kindOf, num, exC]
/-- The example's document as it lies in memory. -/
theorem ex_lies {w : World} {B : Nat} {t : T} (h : t.Own w B) (hv : t.val = exV) : ∃ la lc dc g o, t.arg = .agg #[.int .i64 5, .int .i64 0, .string ⟨#[]⟩, .slice la 0 lc, .slice (some ⟨g, o, none⟩) 1 dc] ∧ w.cell? ⟨g, o + 3, none⟩ = some (.string nameB) ∧ g < w.heap.size := by
  obtain ⟨k, n, s, la, lc, l, da, dc, d⟩ := t
  rw [T.val_mk, exV] at hv
  injection hv with e1 e2 e3 e4 e5
  subst e1 e2 e3
  obtain rfl := List.map_eq_nil_iff.1 e4
  have hl : d.length = 1 := by have := congrArg List.length e5; simpa using this
  have hin := (owns_in _ h.owns).parts.2
  obtain ⟨b, o, f1, k1, n1, s1, la1, lc1, l1, da1, dc1, d1, rfl, hx, -, -, -, -, x3, -, -⟩ := hin.six (i := 0) (by omega)
  have h2 := congrArg (·[0]?) e5
  simp only [List.getElem?_map, hx] at h2
  simp [T.val_mk] at h2
  obtain ⟨-, -, -, rfl, -⟩ := h2
  refine ⟨la, lc, dc, b, o, by simp [T.arg, T.cells, hl], by simpa using x3, by simpa using cell_lt x3⟩
end Go.Proofs.YtjfgmcmnpekahaaDoor
