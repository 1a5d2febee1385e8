/- An element or a field laid behind a row of the call's own: no statement is proved here. -/
import Derived.Test.YtjfgmcmnpekahaaDoorLent
import Derived.Test.YtjfgmcmnpekahaaDoorPut
namespace Go.Proofs.YtjfgmcmnpekahaaDoor
open Go.RowKit
set_option maxRecDepth 100000

/-- A field more, in a row that has grown or moved. -/
theorem own_addD {w w1 w2 : World} {B B1 : Nat} {k n : Int} {s : ByteArray} {la : Option Addr} {lc : Nat} {l : List T} {da : Option Addr} {dc g cap : Nat} {d : List (ByteArray × T)} {f : ByteArray} {y : T}
    (h : T.Own w B (.mk k n s la lc l da dc d)) (hy : y.Own w1 B1) (hb : Below w.heap.size w w1) (hB : w.heap.size ≤ B1) (hB0 : B ≤ B1)
    (hf : okLen f.size) (hl : okFar ((d.length + 1) * 96)) (hc : cap ≤ 9223372036854775807)
    (hrow : w2.ownsRow B 51 6 (.slice (some ⟨g, 0, none⟩) (d.length + 1) cap) (d.length + 1) (d.flatMap fcells ++ fcells (f, y))) (hg : w1.grownBy w2 (Value.slice da d.length dc).ownBlock) (hd : (Value.slice da d.length dc).ownBlock = some g ∨ w1.heap.size ≤ g) :
    T.Own w2 B (.mk k n s la lc l (some ⟨g, 0, none⟩) cap (d ++ [(f, y)])) := by
  obtain ⟨ok, owns, nodup⟩ := h
  have o1 := owns.below hb
  rw [rows_mk] at o1 nodup owns
  have hlt := owns_lt owns
  have hsub : (⟨25, 5, .slice la l.length lc, l.length, l.flatMap T.cells⟩ :: (l.flatMap T.rows ++ d.flatMap fun f => f.2.rows) : List Row).Sublist
      (⟨25, 5, .slice la l.length lc, l.length, l.flatMap T.cells⟩ :: ⟨51, 6, .slice da d.length dc, d.length, d.flatMap fcells⟩ :: (l.flatMap T.rows ++ d.flatMap fun f => f.2.rows)) :=
    (List.Sublist.cons _ (List.Sublist.refl _)).cons_cons _
  have hnd := nodup.sublist (blocks_sub hsub)
  have howd : ∀ g', (Value.slice da d.length dc).ownBlock = some g' → g' ∉ blocksOf (⟨25, 5, .slice la l.length lc, l.length, l.flatMap T.cells⟩ :: (l.flatMap T.rows ++ d.flatMap fun f => f.2.rows) : List Row) ∧ g' < w.heap.size := by
    intro g' hg'
    have hp : (⟨25, 5, .slice la l.length lc, l.length, l.flatMap T.cells⟩ :: ⟨51, 6, .slice da d.length dc, d.length, d.flatMap fcells⟩ :: (l.flatMap T.rows ++ d.flatMap fun f => f.2.rows) : List Row).Perm
        (⟨51, 6, .slice da d.length dc, d.length, d.flatMap fcells⟩ :: ⟨25, 5, .slice la l.length lc, l.length, l.flatMap T.cells⟩ :: (l.flatMap T.rows ++ d.flatMap fun f => f.2.rows)) := List.Perm.swap _ _ _
    have h1 := (hp.filterMap (fun r : Row => r.v.ownBlock)).nodup_iff.1 nodup
    rw [List.filterMap_cons] at h1
    simp only [hg'] at h1
    exact ⟨(List.nodup_cons.1 h1).1, (hlt g' (List.mem_filterMap.2 ⟨_, List.mem_cons_of_mem _ (List.mem_cons_self ..), hg'⟩)).2⟩
  have hrest0 : Owns w B (⟨25, 5, .slice la l.length lc, l.length, l.flatMap T.cells⟩ :: (l.flatMap T.rows ++ d.flatMap fun f => f.2.rows)) := fun r hr => owns r (hsub.subset hr)
  have hrest : Owns w1 B (⟨25, 5, .slice la l.length lc, l.length, l.flatMap T.cells⟩ :: (l.flatMap T.rows ++ d.flatMap fun f => f.2.rows)) := fun r hr => o1 r (hsub.subset hr)
  have hkeep : ∀ {R : List Row} {B' : Nat}, Owns w1 B' R → (∀ b ∈ blocksOf R, some b ≠ (Value.slice da d.length dc).ownBlock) → Owns w2 B' R := fun hR hn => hR.keep fun b hb => hg.block b (owns_lt hR b hb).2 (hn b hb)
  have hrest2 := hkeep hrest (fun b hb e => (howd b e.symm).1 hb)
  have hy2 := hkeep hy.owns (fun b hb e => by have := (howd b e.symm).2; have := (owns_lt hy.owns b hb).1; omega)
  have hgn : g ∉ blocksOf (⟨25, 5, .slice la l.length lc, l.length, l.flatMap T.cells⟩ :: (l.flatMap T.rows ++ d.flatMap fun f => f.2.rows)) := fun hc => by
    rcases hd with hd | hd
    · exact (howd g hd).1 hc
    · have := (owns_lt hrest g hc).2; omega
  have hgy : g ∉ blocksOf y.rows := fun hc => by
    rcases hd with hd | hd
    · have := (howd g hd).2; have := (owns_lt hy.owns g hc).1; omega
    · have := (owns_lt hy.owns g hc).2; omega
  have hall : (T.rows (.mk k n s la lc l (some ⟨g, 0, none⟩) cap (d ++ [(f, y)]))).Perm
      (⟨51, 6, .slice (some ⟨g, 0, none⟩) (d.length + 1) cap, d.length + 1, d.flatMap fcells ++ fcells (f, y)⟩ :: ((⟨25, 5, .slice la l.length lc, l.length, l.flatMap T.cells⟩ :: (l.flatMap T.rows ++ d.flatMap fun f => f.2.rows)) ++ y.rows)) := by
    rw [rows_mk]
    refine (List.Perm.swap _ _ _).trans ?_
    simp only [List.length_append, List.length_singleton, List.flatMap_append, List.flatMap_cons, List.flatMap_nil, List.append_nil, List.cons_append, List.append_assoc]
    exact List.Perm.refl _
  refine ⟨?_, ?_, ?_⟩
  · simp only [T.ok, T.okL_iff, T.okD_iff] at ok ⊢
    obtain ⟨q1, q2, q3, q4, q5, q6, q7, q8, q9, q10, q11⟩ := ok
    have hcap : d.length + 1 ≤ cap := by
      obtain ⟨_, h2⟩ := hrow
      rcases h2 with ⟨hv, _⟩ | ⟨g', cap', cur, hv, hb, hg, hkc, _⟩
      · cases hv
      · injection hv with _ _ e3; omega
    refine ⟨q1, q2, q3, q4, q5, q6, ⟨by simpa using hcap, hc⟩, by simpa using hl, by simp, q10, fun z hz => ?_⟩
    rcases List.mem_append.1 hz with hz | hz
    · exact q11 z hz
    · simp at hz; subst hz; exact ⟨hf, hy.ok⟩
  · intro r hr
    rcases List.mem_cons.1 (hall.mem_iff.1 hr) with rfl | hr
    · exact hrow
    · rcases List.mem_append.1 hr with hr | hr
      · exact hrest2 r hr
      · exact (hy2.base hB0) r hr
  · refine (hall.filterMap _).nodup_iff.2 ?_
    rw [List.filterMap_cons]
    simp only [Value.ownBlock]
    refine List.nodup_cons.2 ⟨fun hc => ?_, nodup_behind hrest0 hy.owns hB hnd hy.nodup⟩
    have hc2 : g ∈ blocksOf ((⟨25, 5, .slice la l.length lc, l.length, l.flatMap T.cells⟩ :: (l.flatMap T.rows ++ d.flatMap fun f => f.2.rows)) ++ y.rows) := hc
    rw [blocksOf_append] at hc2
    rcases List.mem_append.1 hc2 with hc | hc
    · exact hgn hc
    · exact hgy hc


/-- An element more, in a row that has grown or moved. -/
theorem own_addL {w w1 w2 : World} {B B1 : Nat} {k n : Int} {s : ByteArray} {la : Option Addr} {lc g cap : Nat} {l : List T} {da : Option Addr} {dc : Nat} {d : List (ByteArray × T)} {y : T}
    (h : T.Own w B (.mk k n s la lc l da dc d)) (hy : y.Own w1 B1) (hb : Below w.heap.size w w1) (hB : w.heap.size ≤ B1) (hB0 : B ≤ B1)
    (hl : okLen ((l.length + 1) * 80)) (hc : cap ≤ 9223372036854775807)
    (hrow : w2.ownsRow B 25 5 (.slice (some ⟨g, 0, none⟩) (l.length + 1) cap) (l.length + 1) (l.flatMap T.cells ++ y.cells)) (hg : w1.grownBy w2 (Value.slice la l.length lc).ownBlock) (hd : (Value.slice la l.length lc).ownBlock = some g ∨ w1.heap.size ≤ g) :
    T.Own w2 B (.mk k n s (some ⟨g, 0, none⟩) cap (l ++ [y]) da dc d) := by
  obtain ⟨ok, owns, nodup⟩ := h
  have o1 := owns.below hb
  rw [rows_mk] at o1 nodup owns
  have hlt := owns_lt owns
  have hsub : (⟨51, 6, .slice da d.length dc, d.length, d.flatMap fcells⟩ :: (l.flatMap T.rows ++ d.flatMap fun f => f.2.rows) : List Row).Sublist
      (⟨25, 5, .slice la l.length lc, l.length, l.flatMap T.cells⟩ :: ⟨51, 6, .slice da d.length dc, d.length, d.flatMap fcells⟩ :: (l.flatMap T.rows ++ d.flatMap fun f => f.2.rows)) :=
    List.Sublist.cons _ (List.Sublist.refl _)
  have hnd := nodup.sublist (blocks_sub hsub)
  have howd : ∀ g', (Value.slice la l.length lc).ownBlock = some g' → g' ∉ blocksOf (⟨51, 6, .slice da d.length dc, d.length, d.flatMap fcells⟩ :: (l.flatMap T.rows ++ d.flatMap fun f => f.2.rows) : List Row) ∧ g' < w.heap.size := by
    intro g' hg'
    have h1 := nodup
    unfold blocksOf at h1
    rw [List.filterMap_cons] at h1
    simp only [hg'] at h1
    exact ⟨(List.nodup_cons.1 h1).1, (hlt g' (List.mem_filterMap.2 ⟨_, List.mem_cons_self .., hg'⟩)).2⟩
  have hrest0 : Owns w B (⟨51, 6, .slice da d.length dc, d.length, d.flatMap fcells⟩ :: (l.flatMap T.rows ++ d.flatMap fun f => f.2.rows)) := fun r hr => owns r (hsub.subset hr)
  have hrest : Owns w1 B (⟨51, 6, .slice da d.length dc, d.length, d.flatMap fcells⟩ :: (l.flatMap T.rows ++ d.flatMap fun f => f.2.rows)) := fun r hr => o1 r (hsub.subset hr)
  have hkeep : ∀ {R : List Row} {B' : Nat}, Owns w1 B' R → (∀ b ∈ blocksOf R, some b ≠ (Value.slice la l.length lc).ownBlock) → Owns w2 B' R := fun hR hn => hR.keep fun b hb => hg.block b (owns_lt hR b hb).2 (hn b hb)
  have hrest2 := hkeep hrest (fun b hb e => (howd b e.symm).1 hb)
  have hy2 := hkeep hy.owns (fun b hb e => by have := (howd b e.symm).2; have := (owns_lt hy.owns b hb).1; omega)
  have hgn : g ∉ blocksOf (⟨51, 6, .slice da d.length dc, d.length, d.flatMap fcells⟩ :: (l.flatMap T.rows ++ d.flatMap fun f => f.2.rows)) := fun hc => by
    rcases hd with hd | hd
    · exact (howd g hd).1 hc
    · have := (owns_lt hrest g hc).2; omega
  have hgy : g ∉ blocksOf y.rows := fun hc => by
    rcases hd with hd | hd
    · have := (howd g hd).2; have := (owns_lt hy.owns g hc).1; omega
    · have := (owns_lt hy.owns g hc).2; omega
  have hall : (T.rows (.mk k n s (some ⟨g, 0, none⟩) cap (l ++ [y]) da dc d)).Perm
      (⟨25, 5, .slice (some ⟨g, 0, none⟩) (l.length + 1) cap, l.length + 1, l.flatMap T.cells ++ y.cells⟩ :: ((⟨51, 6, .slice da d.length dc, d.length, d.flatMap fcells⟩ :: (l.flatMap T.rows ++ d.flatMap fun f => f.2.rows)) ++ y.rows)) := by
    rw [rows_mk]
    simp only [List.length_append, List.length_singleton, List.flatMap_append, List.flatMap_cons, List.flatMap_nil, List.append_nil, List.cons_append, List.append_assoc]
    exact List.Perm.cons _ (List.Perm.cons _ (List.Perm.append_left _ List.perm_append_comm))
  refine ⟨?_, ?_, ?_⟩
  · simp only [T.ok, T.okL_iff, T.okD_iff] at ok ⊢
    obtain ⟨q1, q2, q3, q4, q5, q6, q7, q8, q9, q10, q11⟩ := ok
    have hcap : l.length + 1 ≤ cap := by
      obtain ⟨_, h2⟩ := hrow
      rcases h2 with ⟨hv, _⟩ | ⟨g', cap', cur, hv, hb, hg, hkc, _⟩
      · cases hv
      · injection hv with _ _ e3; omega
    refine ⟨q1, q2, q3, ⟨by simpa using hcap, hc⟩, by simpa using hl, by simp, q7, q8, q9, fun z hz => ?_, q11⟩
    rcases List.mem_append.1 hz with hz | hz
    · exact q10 z hz
    · simp at hz; subst hz; exact hy.ok
  · intro r hr
    rcases List.mem_cons.1 (hall.mem_iff.1 hr) with rfl | hr
    · exact hrow
    · rcases List.mem_append.1 hr with hr | hr
      · exact hrest2 r hr
      · exact (hy2.base hB0) r hr
  · refine (hall.filterMap _).nodup_iff.2 ?_
    rw [List.filterMap_cons]
    simp only [Value.ownBlock]
    refine List.nodup_cons.2 ⟨fun hc => ?_, nodup_behind hrest0 hy.owns hB hnd hy.nodup⟩
    have hc2 : g ∈ blocksOf ((⟨51, 6, .slice da d.length dc, d.length, d.flatMap fcells⟩ :: (l.flatMap T.rows ++ d.flatMap fun f => f.2.rows)) ++ y.rows) := hc
    rw [blocksOf_append] at hc2
    rcases List.mem_append.1 hc2 with hc | hc
    · exact hgn hc
    · exact hgy hc

theorem cap_of {w : World} {B : Nat} {e : TypeId} {c g n cap : Nat} {xs : List Value} (h : w.ownsRow B e c (.slice (some ⟨g, 0, none⟩) n cap) n xs) : cap ≤ 9223372036854775807 := by
  obtain ⟨_, h2⟩ := h
  rcases h2 with ⟨hv, _⟩ | ⟨g', cap', cur, hv, hb, hg, hkc, hm, _⟩
  · cases hv
  · injection hv with _ _ e3; unfold maxLen at hm; omega

theorem own_rowL {w : World} {B : Nat} {k n : Int} {s : ByteArray} {la : Option Addr} {lc : Nat} {l : List T} {da : Option Addr} {dc : Nat} {d : List (ByteArray × T)} (h : T.Own w B (.mk k n s la lc l da dc d)) :
    w.ownsRow B 25 5 (.slice la l.length lc) l.length (l.flatMap T.cells) := by have := h.owns; rw [rows_mk] at this; exact this.head
theorem own_rowD {w : World} {B : Nat} {k n : Int} {s : ByteArray} {la : Option Addr} {lc : Nat} {l : List T} {da : Option Addr} {dc : Nat} {d : List (ByteArray × T)} (h : T.Own w B (.mk k n s la lc l da dc d)) :
    w.ownsRow B 51 6 (.slice da d.length dc) d.length (d.flatMap fcells) := by have := h.owns; rw [rows_mk] at this; exact this.tail.head
end Go.Proofs.YtjfgmcmnpekahaaDoor
