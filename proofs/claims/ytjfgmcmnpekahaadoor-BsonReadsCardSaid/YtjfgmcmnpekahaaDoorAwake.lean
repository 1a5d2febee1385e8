/- The contract of awake, the small case that each law begins with: no statement is proved here. -/
import Derived.Test.YtjfgmcmnpekahaaDoorRight2
import Derived.Test.YtjfgmcmnpekahaaDoorGet
import Derived.Test.YtjfgmcmnpekahaaDoorCmp2
namespace Go.Proofs.YtjfgmcmnpekahaaDoor
open Go.RowKit
set_option maxRecDepth 100000

theorem int_any (n : Int) (w : World) : Calls Tryd.prog 25 #[.int .i64 n] w fun e w' => e = .returned (.agg #[.int .i64 3, .int .i64 n, .string ⟨#[]⟩, .slice none 0 0, .slice none 0 0]) ∧ Below w.heap.size w w' := by
  go_enter Tryd.func25, Tryd.ntmps25
  go_wp2_with fail
  exact bodyPost_ret (v := .agg #[.int .i64 3, .int .i64 n, .string ⟨#[]⟩, .slice none 0 0, .slice none 0 0]) (by simp [results, Tryd.results25, go_sem]) rfl ⟨rfl, below1 _ _⟩
/-- A document of one field, in a block of its own. -/
def DocTo (s : ByteArray) (n : Int) (w : World) (e : Ending) (w' : World) : Prop := ∃ g, e = .returned (.agg #[.int .i64 5, .int .i64 0, .string ⟨#[]⟩, .slice none 0 0, .slice (some ⟨g, 0, none⟩) 1 1]) ∧ w'.heap[g]? = some (.cells #[.string s, .int .i64 3, .int .i64 n, .string ⟨#[]⟩, .slice none 0 0, .slice none 0 0] 51 (0, 0)) ∧ Below w.heap.size w w'
theorem doc_any (s : ByteArray) (n : Int) (w : World) : Calls Tryd.prog 24 #[.string s, .agg #[.int .i64 3, .int .i64 n, .string ⟨#[]⟩, .slice none 0 0, .slice none 0 0]] w (DocTo s n w) := by
  go_enter Tryd.func24, Tryd.ntmps24
  go_wp2_with fail
  refine bodyPost_ret (v := .agg #[.int .i64 5, .int .i64 0, .string ⟨#[]⟩, .slice none 0 0, .slice (some ⟨w.heap.size + 1 + 1, 0, none⟩) 1 1]) (by simp [results, Tryd.results24, go_sem]) rfl ⟨_, rfl, ?_, below3 _ _ _ _⟩
  exact heap_alloc_at _ _ _ (by simp)

/-- The document of one field as it lies in memory. -/
def docT (g : Nat) (s : ByteArray) (n : Int) : T := .mk 5 0 ⟨#[]⟩ none 0 [] (some ⟨g, 0, none⟩) 1 [(s, .mk 3 n ⟨#[]⟩ none 0 [] none 0 [])]
theorem docT_in {w : World} {g : Nat} {s : ByteArray} {n : Int} (h : w.heap[g]? = some (.cells #[.string s, .int .i64 3, .int .i64 n, .string ⟨#[]⟩, .slice none 0 0, .slice none 0 0] 51 (0, 0))) : (docT g s n).In w := by
  intro p hp
  simp [docT, T.places, T.placesL, T.placesD, laid, fcells, T.cells, at_] at hp
  rcases hp with rfl | rfl | rfl | rfl | rfl | rfl <;> simp [cell_of_row w g _ _ _ _ h]
theorem docT_ok {g : Nat} {s : ByteArray} {n : Int} (hn : okInt n) (hs : okLen s.size) : (docT g s n).ok := by
  have h0 : (ByteArray.mk #[]).size = 0 := rfl
  simp [docT, T.ok, T.okL, T.okD, okInt, okLen, okFar, h0] at hn hs ⊢
  omega

def nameA : ByteArray := ⟨#[97]⟩
def nameB : ByteArray := ⟨#[98]⟩
def docV (s : ByteArray) (n : Int) : V := .mk 5 0 ⟨#[]⟩ [] [(s, .mk 3 n ⟨#[]⟩ [] [])]
theorem docT_val (g : Nat) (s : ByteArray) (n : Int) : (docT g s n).val = docV s n := rfl
theorem awake_cmp : cmpV (docV nameA 1) (docV nameB 0) = -1 := by
  simp [docV, cmpV, cmpD, cmpF, cmpS, ltS, Lib.toList_data, nameA, nameB, Op.bytesLess]
theorem awake_right : rightOf (docV ⟨#[]⟩ 1) = 11 := by
  have h0 : (ByteArray.mk #[]).size = 0 := rfl
  simp [docV, rightOf, sizeV, szFrom, szD, rightV, rightD, nameOk, aloneV, fitsV, Lib.toList_data, h0]
theorem awake_size : sizeV (docV nameA 1) = 16 := by
  have h0 : nameA.size = 1 := rfl
  simp [docV, sizeV, szFrom, szD, h0]
theorem awake_get : getV (docV nameA 1) nameA = some (.mk 3 1 ⟨#[]⟩ [] []) := by
  simp [docV, getV, findD]

end Go.Proofs.YtjfgmcmnpekahaaDoor
