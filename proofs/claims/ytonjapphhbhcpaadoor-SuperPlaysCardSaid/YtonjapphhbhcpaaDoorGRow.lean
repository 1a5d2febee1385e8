/- A row of bytes that a call has made itself, written into by 'copy' and by cells. No statement is proved here. -/
import Derived.Test.YtonjapphhbhcpaaDoorJ17
import Derived.Test.YtonjapphhbhcpaaDoorSLent
import Derived.Laws.CopyOwn
namespace Go.Proofs.YtonjapphhbhcpaaDoor
open Go.RowKit
set_option maxRecDepth 100000

/-- The block g is this row of bytes, no more. -/
def FullAt (w : World) (g : Nat) (L : List Int) : Prop := w.heap[g]? = some (.cells (btV L).toArray 5)
def spl (L : List Int) (k : Nat) (xs : List Int) : List Int := L.take k ++ (xs ++ L.drop (k + xs.length))
theorem spl_mid {a m b x : List Int} (h : m.length = x.length) {k : Nat} (hk : k = a.length) : spl (a ++ (m ++ b)) k x = a ++ (x ++ b) := by
  subst hk
  unfold spl
  rw [List.take_left' rfl, ← List.drop_drop, List.drop_left' rfl, List.drop_left' h]
theorem spl_len {L xs : List Int} {k : Nat} (h : k + xs.length ≤ L.length) : (spl L k xs).length = L.length := by
  unfold spl
  rw [List.length_append, List.length_append, List.length_take, List.length_drop]
  omega
theorem splice_bt (L : List Int) (k : Nat) (xs : List Int) : splice (btV L) k (btV xs) = btV (spl L k xs) := by
  unfold splice spl
  simp [btV, List.map_take, List.map_drop]
theorem bt_one (l : List Int) : ∀ v ∈ btV l, v.oneCell' = true := by
  intro v hv
  simp only [btV, List.mem_map] at hv
  obtain ⟨x, -, rfl⟩ := hv
  rfl
section
variable {w w' : World} {g B : Nat} {L : List Int}
theorem FullAt.lt (h : FullAt w g L) : g < w.heap.size := lt_of_block h
theorem FullAt.then_ (h : FullAt w g L) (hb : Below w.heap.size w w') : FullAt w' g L := (hb.block g h.lt).trans h
theorem FullAt.inB (h : FullAt w g L) : InB w (some ⟨g, 0, none⟩) L := fun i x hx => ⟨g, 0, rfl, by rw [row_cells h]; simp [btV, hx]⟩
theorem FullAt.at_ (h : FullAt w g L) {j : Nat} {x : Int} (hx : L[j]? = some x) : w.cell? ⟨g, j, none⟩ = some (.int .u8 x) ∧ w.frozen? ⟨g, j, none⟩ = false := by
  refine ⟨by rw [row_cells h]; simp [btV, hx], ?_⟩
  simp [World.frozen?, show w.heap[g]? = _ from h]
theorem FullAt.own (h : FullAt w g L) (hB : B ≤ g) (hl : L.length ≤ maxLen) : OwnB w B (.slice (some ⟨g, 0, none⟩) L.length L.length) L := by
  refine ⟨by simp [btV], .inr ⟨g, L.length, _, rfl, hB, h, Nat.le_refl _, hl, by simp [btV], by rw [List.take_of_length_le (by simp [btV])]⟩⟩
theorem FullAt.set (h : FullAt w g L) (j : Nat) (x : Int) : FullAt (w.setCell ⟨g, j, none⟩ (.int .u8 x)) g (L.set j x) := by
  unfold FullAt
  have h' : w.heap[g]? = some (.cells (btV L).toArray 5) := h
  simp [World.setCell, Array.getElem?_modify, h', btV, List.map_set]
end
/-- 'copy(b[k:], x)' into such a row. -/
theorem cpF {ops : Array Oper} {rest : List Oper} {o : Oper} {a : Act} {w : World} {Q : Exit → Act → World → Prop} (hgd : o.guard = none) (d s : Operand)
    (ho : o.op = .call { callee := .builtin .copy, args := #[d, s], argTypes := #[24, 24] }) (g k n c : Nat) (L : List Int) (hf : FullAt w g L) (hd : a.eval d = .slice (some ⟨g, k, none⟩) n c)
    (ax : Option Addr) (m cx : Nat) (xs : List Int) (hs : a.eval s = .slice ax m cx) (hm : xs.length = m) (hmn : m ≤ n) (hin : InB w ax xs) (hk : k + m ≤ L.length) (B : Nat) (w0 : World) (hb : Below B w0 w) (hB : B ≤ g)
    (h : ∀ w', Hid (FullAt w' g (spl L k xs)) → Below B w0 w' → wpList Tryd.prog ops Q rest (a.put o.dst (goInt m)) w') : wpList Tryd.prog ops Q (o :: rest) a w := by
  refine wpList_copy_splice hgd d s 24 24 ho 5 Tryd.underlying24 (by kernel_rfl) _ _ n c m cx hd hs g k (btV L) 5 hf (btV xs) (by rw [btV_len, hm]; exact (Nat.min_eq_left hmn).symm) (fun hp => ?_) (by rw [btV_len, btV_len, hm]; exact hk) (bt_one _) B w0 hb hB ?_
  · rw [btV_len] at hp
    exact ⟨rfl, hin.src (Below.refl _ _) hp⟩
  · intro w' hg hb'
    rw [btV_len, hm]
    exact h w' (Lib.hid (by unfold FullAt; rw [← splice_bt]; exact hg.out)) hb'
end Go.Proofs.YtonjapphhbhcpaaDoor
