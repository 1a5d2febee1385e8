/- Plain words for values written over in part: no statement is proved here. -/
import Derived.Test.YtjfgmcmnpekahaaDoorGet
import Derived.Test.YtjfgmcmnpekahaaDoorKeptP
namespace Go.Proofs.YtjfgmcmnpekahaaDoor
open Go.RowKit
set_option maxRecDepth 100000

/-- Cells in the midst of a row, written over. -/
theorem own_mid {w : World} {B : Nat} {e : TypeId} {c g n cap : Nat} {xs ys vs us : List Value} (h : w.ownsRow B e c (.slice (some ⟨g, 0, none⟩) n cap) n (xs ++ vs ++ ys)) (hv : us.length = vs.length) :
    (putCells w g xs.length us).ownsRow B e c (.slice (some ⟨g, 0, none⟩) n cap) n (xs ++ us ++ ys) := by
  obtain ⟨h1, h2⟩ := h
  rcases h2 with ⟨hv', h0, _⟩ | ⟨g', cap', cur, hv', hb, hg, hkc, hm, hs, ht⟩
  · cases hv'
  · injection hv' with e1 e2 e3
    injection e1 with e1
    injection e1 with e1
    subst e1 e3
    have hnc := Nat.mul_le_mul_right c hkc
    simp only [List.length_append] at h1
    obtain ⟨cur', g1, g2, g3⟩ := put_block (g := g) us xs.length cur w hg (by omega)
    refine ⟨by simp only [List.length_append]; omega, .inr ⟨g, cap, cur', rfl, hb, g1, hkc, hm, by rw [g2, hs], ?_⟩⟩
    apply List.ext_getElem?
    intro i
    have hxs : ∀ i, i < n * c → (xs ++ vs ++ ys)[i]? = cur[i]? := fun i hi => by rw [← ht, List.getElem?_take_of_lt hi, Array.getElem?_toList]
    by_cases c1 : i < n * c
    · rw [List.getElem?_take_of_lt c1, Array.getElem?_toList, g3]
      by_cases c2 : i < xs.length
      · rw [if_neg (by omega), List.append_assoc, List.getElem?_append_left c2, ← hxs i c1, List.append_assoc, List.getElem?_append_left c2]
      · by_cases c3 : i < xs.length + us.length
        · rw [if_pos (by omega), List.append_assoc, List.getElem?_append_right (by omega), List.getElem?_append_left (by omega)]
        · rw [if_neg (by omega), ← hxs i c1, List.getElem?_append_right (by simp; omega), List.getElem?_append_right (by simp; omega)]
          simp only [List.length_append, hv]
    · rw [List.getElem?_eq_none (by rw [List.length_take, Array.length_toList, g2]; omega), List.getElem?_eq_none (by simp only [List.length_append]; omega)]

theorem split_at {α : Type} {l : List α} {j : Nat} {x : α} (h : l[j]? = some x) : ∃ l1 l2, l = l1 ++ x :: l2 ∧ l1.length = j := by
  obtain ⟨hj, rfl⟩ := List.getElem?_eq_some_iff.1 h
  exact ⟨l.take j, l.drop (j + 1), by rw [List.getElem_cons_drop, List.take_append_drop], by simp; omega⟩
theorem rows_mk (k n : Int) (s : ByteArray) (la : Option Addr) (lc : Nat) (l : List T) (da : Option Addr) (dc : Nat) (d : List (ByteArray × T)) :
    T.rows (.mk k n s la lc l da dc d) = ⟨25, 5, .slice la l.length lc, l.length, l.flatMap T.cells⟩ :: ⟨51, 6, .slice da d.length dc, d.length, d.flatMap fcells⟩ :: ((l.flatMap T.rows) ++ d.flatMap fun f => f.2.rows) := by
  simp only [T.rows, T.rowsL_eq, T.rowsD_eq]
theorem blocks_sub {a b : List Row} (h : a.Sublist b) : (blocksOf a).Sublist (blocksOf b) := h.filterMap _

theorem blocks_mk {k n : Int} {s : ByteArray} {la : Option Addr} {lc : Nat} {l : List T} {da : Option Addr} {dc : Nat} {d : List (ByteArray × T)} {b : Nat} :
    b ∈ blocksOf (T.rows (.mk k n s la lc l da dc d)) ↔ (Value.slice la l.length lc).ownBlock = some b ∨ (Value.slice da d.length dc).ownBlock = some b ∨ (∃ x ∈ l, b ∈ blocksOf x.rows) ∨ ∃ f ∈ d, b ∈ blocksOf f.2.rows := by
  rw [rows_mk]
  unfold blocksOf
  simp only [List.mem_filterMap, List.mem_cons, List.mem_append, List.mem_flatMap]
  constructor
  · rintro ⟨r, h | h | ⟨x, hx, h⟩ | ⟨x, hx, h⟩, hr⟩
    · subst h; exact .inl hr
    · subst h; exact .inr (.inl hr)
    · exact .inr (.inr (.inl ⟨x, hx, r, h, hr⟩))
    · exact .inr (.inr (.inr ⟨x, hx, r, h, hr⟩))
  · rintro (h | h | ⟨x, hx, r, h, hr⟩ | ⟨x, hx, r, h, hr⟩)
    · exact ⟨_, .inl rfl, h⟩
    · exact ⟨_, .inr (.inl rfl), h⟩
    · exact ⟨r, .inr (.inr (.inl ⟨x, hx, h⟩)), hr⟩
    · exact ⟨r, .inr (.inr (.inr ⟨x, hx, h⟩)), hr⟩
theorem T.Own.apart {w w' : World} {B B' : Nat} {t : T} {S : List Nat} (h : t.Own w B) (ho : Only S w w') (hS : ∀ b ∈ blocksOf t.rows, b ∉ S) (hB : B' ≤ B) : t.Own w' B' :=
  ⟨h.ok, (h.owns.only ho hS).base hB, h.nodup⟩

/-- A field's value written over with one that lies behind. -/
theorem own_setD {w w1 : World} {B B1 : Nat} {k n : Int} {s : ByteArray} {la : Option Addr} {lc : Nat} {l : List T} {g dc : Nat} {d1 d2 : List (ByteArray × T)} {f : ByteArray} {x y : T}
    (h : T.Own w B (.mk k n s la lc l (some ⟨g, 0, none⟩) dc (d1 ++ (f, x) :: d2))) (hy : y.Own w1 B1) (hb : Below w.heap.size w w1) (hB : w.heap.size ≤ B1) (hB0 : B ≤ B1) :
    T.Own (putCells w1 g (d1.length * 6 + 1) y.cells) B (.mk k n s la lc l (some ⟨g, 0, none⟩) dc (d1 ++ (f, y) :: d2)) := by
  obtain ⟨ok, owns, nodup⟩ := h
  have o1 := owns.below hb
  rw [rows_mk] at o1 nodup owns
  have hg := owns_lt owns
  have hgm : g ∈ blocksOf (T.rows (.mk k n s la lc l (some ⟨g, 0, none⟩) dc (d1 ++ (f, x) :: d2))) := by
    rw [rows_mk]; exact List.mem_filterMap.2 ⟨_, List.mem_cons_of_mem _ (List.mem_cons_self ..), rfl⟩
  rw [rows_mk] at hgm
  have hglt := hg g hgm
  have hyg : ∀ b ∈ blocksOf y.rows, b ≠ g := fun b hb e => by have := (owns_lt hy.owns b hb).1; omega
  have p := put_only y.cells g (d1.length * 6 + 1) w1
  have hsub : (⟨25, 5, .slice la l.length lc, l.length, l.flatMap T.cells⟩ :: ((l.flatMap T.rows) ++ (d1.flatMap (fun f => f.2.rows) ++ d2.flatMap fun f => f.2.rows)) : List Row).Sublist
      (⟨25, 5, .slice la l.length lc, l.length, l.flatMap T.cells⟩ :: (l.flatMap T.rows ++ (d1 ++ (f, x) :: d2).flatMap fun f => f.2.rows)) := by
    rw [List.flatMap_append, List.flatMap_cons]
    exact (List.Sublist.append_left (List.Sublist.append_left (List.sublist_append_right _ _) _) _).cons_cons _
  have hnd2 : (blocksOf (⟨25, 5, .slice la l.length lc, l.length, l.flatMap T.cells⟩ :: (l.flatMap T.rows ++ (d1 ++ (f, x) :: d2).flatMap fun f => f.2.rows))).Nodup ∧ g ∉ blocksOf (⟨25, 5, .slice la l.length lc, l.length, l.flatMap T.cells⟩ :: (l.flatMap T.rows ++ (d1 ++ (f, x) :: d2).flatMap fun f => f.2.rows)) := by
    have hp : (⟨25, 5, .slice la l.length lc, l.length, l.flatMap T.cells⟩ :: ⟨51, 6, .slice (some ⟨g, 0, none⟩) (d1 ++ (f, x) :: d2).length dc, (d1 ++ (f, x) :: d2).length, (d1 ++ (f, x) :: d2).flatMap fcells⟩ :: (l.flatMap T.rows ++ (d1 ++ (f, x) :: d2).flatMap fun f => f.2.rows) : List Row).Perm
        (⟨51, 6, .slice (some ⟨g, 0, none⟩) (d1 ++ (f, x) :: d2).length dc, (d1 ++ (f, x) :: d2).length, (d1 ++ (f, x) :: d2).flatMap fcells⟩ :: ⟨25, 5, .slice la l.length lc, l.length, l.flatMap T.cells⟩ :: (l.flatMap T.rows ++ (d1 ++ (f, x) :: d2).flatMap fun f => f.2.rows)) := List.Perm.swap _ _ _
    have := (hp.filterMap (fun r : Row => r.v.ownBlock)).nodup_iff.1 nodup
    simp only [List.filterMap_cons (l := _ :: _), Value.ownBlock] at this
    have h2 := List.nodup_cons.1 this
    exact ⟨h2.2, h2.1⟩
  have hnd3 := hnd2.1.sublist (blocks_sub hsub)
  have hgn : g ∉ blocksOf (⟨25, 5, .slice la l.length lc, l.length, l.flatMap T.cells⟩ :: ((l.flatMap T.rows) ++ (d1.flatMap (fun f => f.2.rows) ++ d2.flatMap fun f => f.2.rows))) := fun hc => hnd2.2 ((blocks_sub hsub).subset hc)
  have hrest : Owns w1 B (⟨25, 5, .slice la l.length lc, l.length, l.flatMap T.cells⟩ :: ((l.flatMap T.rows) ++ (d1.flatMap (fun f => f.2.rows) ++ d2.flatMap fun f => f.2.rows))) := fun r hr => by
    rcases List.mem_cons.1 (hsub.subset hr) with rfl | hr
    · exact o1 _ (List.mem_cons_self ..)
    · exact o1 r (List.mem_cons_of_mem _ (List.mem_cons_of_mem _ hr))
  have hrest2 := hrest.only p (fun b hb hc => by simp at hc; subst hc; exact hgn hb)
  have hy2 := hy.owns.only p (fun b hb hc => by simp at hc; exact hyg b hb hc)
  have hall : (T.rows (.mk k n s la lc l (some ⟨g, 0, none⟩) dc (d1 ++ (f, y) :: d2))).Perm
      (⟨51, 6, .slice (some ⟨g, 0, none⟩) (d1 ++ (f, y) :: d2).length dc, (d1 ++ (f, y) :: d2).length, (d1 ++ (f, y) :: d2).flatMap fcells⟩ :: ((⟨25, 5, .slice la l.length lc, l.length, l.flatMap T.cells⟩ :: ((l.flatMap T.rows) ++ (d1.flatMap (fun f => f.2.rows) ++ d2.flatMap fun f => f.2.rows))) ++ y.rows)) := by
    rw [rows_mk]
    refine (List.Perm.swap _ _ _).trans (List.Perm.cons _ ?_)
    rw [List.cons_append]
    refine List.Perm.cons _ ?_
    rw [List.flatMap_append, List.flatMap_cons, List.append_assoc, List.append_assoc]
    exact List.Perm.append_left _ (List.Perm.append_left _ List.perm_append_comm)
  have hrow : (putCells w1 g (d1.length * 6 + 1) y.cells).ownsRow B 51 6 (.slice (some ⟨g, 0, none⟩) (d1 ++ (f, y) :: d2).length dc) (d1 ++ (f, y) :: d2).length ((d1 ++ (f, y) :: d2).flatMap fcells) := by
    have o2 : w1.ownsRow B 51 6 (.slice (some ⟨g, 0, none⟩) (d1 ++ (f, x) :: d2).length dc) (d1 ++ (f, x) :: d2).length ((d1.flatMap fcells ++ [.string f]) ++ x.cells ++ d2.flatMap fcells) := by
      have := o1 _ (List.mem_cons_of_mem _ (List.mem_cons_self ..))
      simpa [fcells] using this
    have o3 := own_mid o2 (us := y.cells) (by rw [cells_len, cells_len])
    have e1 : (d1.flatMap fcells ++ [Value.string f]).length = d1.length * 6 + 1 := by rw [List.length_append, fflat_len]; rfl
    rw [e1] at o3
    simpa [fcells] using o3
  refine ⟨?_, ?_, ?_⟩
  · simp only [T.ok, T.okL_iff, T.okD_iff] at ok ⊢
    obtain ⟨q1, q2, q3, q4, q5, q6, q7, q8, q9, q10, q11⟩ := ok
    refine ⟨q1, q2, q3, q4, q5, q6, by simpa using q7, by simpa using q8, q9, q10, fun z hz => ?_⟩
    rcases List.mem_append.1 hz with hz | hz
    · exact q11 z (List.mem_append.2 (.inl hz))
    · rcases List.mem_cons.1 hz with rfl | hz
      · exact ⟨(q11 (f, x) (by simp)).1, hy.ok⟩
      · exact q11 z (List.mem_append.2 (.inr (List.mem_cons_of_mem _ hz)))
  · intro r hr
    rcases List.mem_cons.1 (hall.mem_iff.1 hr) with rfl | hr
    · exact hrow
    · rcases List.mem_append.1 hr with hr | hr
      · exact hrest2 r hr
      · exact (hy2.base hB0) r hr
  · refine (hall.filterMap _).nodup_iff.2 ?_
    simp only [List.filterMap_cons (l := _ ++ _), Value.ownBlock]
    refine List.nodup_cons.2 ⟨fun hc => ?_, ?_⟩
    · have hc2 : g ∈ blocksOf ((⟨25, 5, .slice la l.length lc, l.length, l.flatMap T.cells⟩ :: ((l.flatMap T.rows) ++ (d1.flatMap (fun f => f.2.rows) ++ d2.flatMap fun f => f.2.rows))) ++ y.rows) := hc
      rw [blocksOf_append] at hc2
      rcases List.mem_append.1 hc2 with hc | hc
      · exact hgn hc
      · exact hyg g hc rfl
    · have hrest0 : Owns w B (⟨25, 5, .slice la l.length lc, l.length, l.flatMap T.cells⟩ :: ((l.flatMap T.rows) ++ (d1.flatMap (fun f => f.2.rows) ++ d2.flatMap fun f => f.2.rows))) := fun r hr => by
        rcases List.mem_cons.1 (hsub.subset hr) with rfl | hr
        · exact owns _ (List.mem_cons_self ..)
        · exact owns r (List.mem_cons_of_mem _ (List.mem_cons_of_mem _ hr))
      exact nodup_behind hrest0 hy.owns hB hnd3 hy.nodup
end Go.Proofs.YtjfgmcmnpekahaaDoor
