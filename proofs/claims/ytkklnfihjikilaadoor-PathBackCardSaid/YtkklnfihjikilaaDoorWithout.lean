/- The contract of Without: no statement is proved here. -/
import Derived.Test.YtkklnfihjikilaaDoorDelete
namespace Go.Proofs.YtkklnfihjikilaaDoor
open Go.RowKit
set_option maxRecDepth 100000

/-- A document of the call's own, some of whose fields were taken out in place. -/
theorem own_delD {w w' : World} {B : Nat} {k n : Int} {s : ByteArray} {la da : Option Addr} {lc dc : Nat} {l : List T} {d fs : List (ByteArray × T)} (h : T.Own w B (.mk k n s la lc l da dc d)) (ho : Only (Value.slice da d.length dc).ownBlock.toList w w')
    (hrow : w'.ownsRow B 52 6 (.slice da fs.length dc) fs.length (fs.flatMap fcells)) (hs : fs.Sublist d) : T.Own w' B (.mk k n s la lc l da dc fs) := by
  obtain ⟨ok, owns, nodup⟩ := h
  rw [rows_mk] at owns nodup
  have e0 : (Value.slice da fs.length dc).ownBlock = (Value.slice da d.length dc).ownBlock := by cases da <;> rfl
  have hsub : ((⟨31, 5, .slice la l.length lc, l.length, l.flatMap T.cells⟩ :: (l.flatMap T.rows ++ fs.flatMap fun f => f.2.rows)) : List Row).Sublist
      (⟨31, 5, .slice la l.length lc, l.length, l.flatMap T.cells⟩ :: (l.flatMap T.rows ++ d.flatMap fun f => f.2.rows)) := (List.Sublist.append_left (sub_flat _ hs) _).cons_cons _
  have hp : (⟨31, 5, .slice la l.length lc, l.length, l.flatMap T.cells⟩ :: ⟨52, 6, .slice da d.length dc, d.length, d.flatMap fcells⟩ :: (l.flatMap T.rows ++ d.flatMap fun f => f.2.rows) : List Row).Perm
      (⟨52, 6, .slice da d.length dc, d.length, d.flatMap fcells⟩ :: ⟨31, 5, .slice la l.length lc, l.length, l.flatMap T.cells⟩ :: (l.flatMap T.rows ++ d.flatMap fun f => f.2.rows)) := List.Perm.swap _ _ _
  have nd1 := (hp.filterMap (fun r : Row => r.v.ownBlock)).nodup_iff.1 nodup
  have nd2 : (blocksOf (⟨52, 6, .slice da fs.length dc, fs.length, fs.flatMap fcells⟩ :: ⟨31, 5, .slice la l.length lc, l.length, l.flatMap T.cells⟩ :: (l.flatMap T.rows ++ fs.flatMap fun f => f.2.rows))).Nodup := by
    unfold blocksOf
    rw [List.filterMap_cons]
    rw [List.filterMap_cons] at nd1
    have hs2 := hsub.filterMap (fun r : Row => r.v.ownBlock)
    simp only [e0]
    revert nd1
    cases (Value.slice da d.length dc).ownBlock with
    | none => exact fun nd1 => nd1.sublist hs2
    | some g => exact fun nd1 => List.nodup_cons.2 ⟨fun hc => (List.nodup_cons.1 nd1).1 (hs2.subset hc), (List.nodup_cons.1 nd1).2.sublist hs2⟩
  have hrest : Owns w' B (⟨31, 5, .slice la l.length lc, l.length, l.flatMap T.cells⟩ :: (l.flatMap T.rows ++ fs.flatMap fun f => f.2.rows)) := by
    have h1 : Owns w B (⟨31, 5, .slice la l.length lc, l.length, l.flatMap T.cells⟩ :: (l.flatMap T.rows ++ fs.flatMap fun f => f.2.rows)) := fun r hr => by
      rcases List.mem_cons.1 (hsub.subset hr) with rfl | hr
      · exact owns _ (List.mem_cons_self ..)
      · exact owns r (List.mem_cons_of_mem _ (List.mem_cons_of_mem _ hr))
    refine h1.only ho (fun b hb hc => ?_)
    have hc : (Value.slice da d.length dc).ownBlock = some b := by simpa using hc
    unfold blocksOf at nd2
    rw [List.filterMap_cons] at nd2
    simp only [e0, hc] at nd2
    exact (List.nodup_cons.1 nd2).1 hb
  have hq : (T.rows (.mk k n s la lc l da dc fs)).Perm (⟨52, 6, .slice da fs.length dc, fs.length, fs.flatMap fcells⟩ :: ⟨31, 5, .slice la l.length lc, l.length, l.flatMap T.cells⟩ :: (l.flatMap T.rows ++ fs.flatMap fun f => f.2.rows)) := by
    rw [rows_mk]
    exact List.Perm.swap _ _ _
  refine ⟨?_, fun r hr => ?_, (hq.filterMap (fun r : Row => r.v.ownBlock)).nodup_iff.2 nd2⟩
  · simp only [T.ok, T.okL_iff, T.okD_iff] at ok ⊢
    obtain ⟨q1, q2, q3, q4, q5, q6, q7, q8, q9, q10, q11⟩ := ok
    have := hs.length_le
    unfold okFar at q8
    exact ⟨q1, q2, q3, q4, q5, q6, ⟨by omega, q7.2⟩, by unfold okFar; omega, q9, q10, fun f hf => q11 f (hs.subset hf)⟩
  · rcases List.mem_cons.1 (hq.mem_iff.1 hr) with rfl | hr
    · exact hrow
    · exact hrest r hr

set_option maxHeartbeats 4000000 in
theorem without_any (t : T) (s : ByteArray) (w : World) (ok : t.ok) (hin : t.In w) :
    Calls Tryd.prog 54 #[t.arg, .string s] w (WithTo (withoutV t.val s) w) := by
  have HC := Lib.hid (clone_any t ok)
  have HI := Lib.hid hin
  obtain ⟨kt, nt, st, lat, lct, lt, dat, dct, dt⟩ := t
  clear ok hin
  show Calls _ _ #[.agg #[.int .i64 kt, .int .i64 nt, .string st, .slice lat lt.length lct, .slice dat dt.length dct], .string s] _ _
  by_cases k5 : kt = 5
  · subst k5
    have HW := Lib.hid (show withoutV (T.mk 5 nt st lat lct lt dat dct dt).val s = .mk 5 nt st (lt.map T.val) ((dt.map fun f => (f.1, f.2.val)).filter fun f => other s f.1) by rw [T.val_mk 5, withoutV, if_pos rfl])
    generalize withoutV (T.mk 5 nt st lat lct lt dat dct dt).val s = W at HW ⊢
    go_enter Tryd.func54, Tryd.ntmps54
    go_wp2_with fail
    refine (HC.out _ (HI.out.then_ (below3 _ _ _ _))).mono ?_
    rintro e w1 ⟨⟨k', n', s', la', lc', l', da', dc', d'⟩, rfl, hv1, ho1, b1⟩
    dsimp only [T.arg, T.cells]
    rw [T.val_mk, T.val_mk] at hv1
    injection hv1 with e1 e2 e3 vl vd
    subst e1 e2 e3
    rw [← vl, ← vd] at HW
    have z1 : w.heap.size + 3 ≤ w1.heap.size := by have := b1.size; simpa using this
    have HO := Lib.hid (ho1.keep (B' := w.heap.size + 3) (Only.refl [] w1) (by simp) (by simp))
    have HO1 := Lib.hid (HO.out.keep (Only.of_below (S := []) (below1 w1 (.cells #[.int .i64 5, .int .i64 n', .string s', .slice la' l'.length lc', .slice da' d'.length dc'] 31))) (by simp) (Nat.le_refl _))
    have HLT := Lib.hid (fun b hb => owns_lt HO.out.owns b hb)
    have hq0 : (w1.alloc (.cells #[.int .i64 5, .int .i64 n', .string s', .slice la' l'.length lc', .slice da' d'.length dc'] 31)).cell? ⟨w.heap.size + 1, 0, none⟩ = some (.string s) := by
      have h1 := row_then (row_then (row_then (heap_alloc_at (w.alloc (.cells #[.int .i64 5, .int .i64 n', .string s', .slice lat lt.length lct, .slice dat dt.length dct] 31)) (.cells #[.string s] 9) (w.heap.size + 1) (by simp)) (below1 _ _)) b1) (below1 w1 (.cells #[.int .i64 5, .int .i64 n', .string s', .slice la' l'.length lc', .slice da' d'.length dc'] 31))
      rw [row_cells h1]; rfl
    have HQ := Lib.hid hq0
    have HR2 := Lib.hid (row_then (row_then (heap_alloc_at ((w.alloc (.cells #[.int .i64 5, .int .i64 n', .string s', .slice lat lt.length lct, .slice dat dt.length dct] 31)).alloc (.cells #[.string s] 9)) (.cells #[.int .i64 0, .int .i64 0, .string ⟨#[]⟩, .slice none 0 0, .slice none 0 0] 31) (w.heap.size + 2) (by simp)) b1) (below1 w1 (.cells #[.int .i64 5, .int .i64 n', .string s', .slice la' l'.length lc', .slice da' d'.length dc'] 31)))
    have HB1 := Lib.hid (below_then (below_then (below3 _ _ _ _) b1) (below1 w1 (.cells #[.int .i64 5, .int .i64 n', .string s', .slice la' l'.length lc', .slice da' d'.length dc'] 31)))
    have hd1 := ho1.ok.parts.2.2.2.2.2.2.2.1
    have hd2 := ho1.ok.parts.2.2.2.2.2.2.2.2.1
    have hdc : dc' ≤ 9223372036854775807 := by have := ho1.ok; simp only [T.ok] at this; exact this.2.2.2.2.2.2.1.2
    clear vl vd ho1 b1 hq0
    go_wp2_with fail
    refine (deleteFunc_any (w.heap.size + 3) da' dc' d' ⟨w.heap.size + 1, 0, none⟩ s _ HQ.out (fun g hg => ?_) HO1.out.in_.parts.2 (by omega) ⟨hd1, hdc⟩ (own_rowD HO1.out)).mono ?_
    · subst hg
      have := (HLT.out g (blocks_mk.2 (.inr (.inl rfl)))).1
      simp only [ne_eq]; omega
    rintro e w2 ⟨fs, hfs, rfl, hrow, ho⟩
    have HF := Lib.hid hfs
    have HRow := Lib.hid (And.intro hrow ho)
    have hno : ∀ b, b < w.heap.size + 3 ∨ w1.heap.size ≤ b → b ∉ (Value.slice da' d'.length dc').ownBlock.toList := fun b hb hc => by
      have h1 := HLT.out b (blocks_mk.2 (.inr (.inl (by simpa using hc))))
      omega
    have bo := keep_row ho (heap_alloc_new w1 (.cells #[.int .i64 5, .int .i64 n', .string s', .slice la' l'.length lc', .slice da' d'.length dc'] 31)) (hno _ (.inr (Nat.le_refl _)))
    have br := keep_row ho HR2.out (hno _ (.inl (by omega)))
    have r4 : ∀ o, w2.cell? ⟨w1.heap.size, o, none⟩ = (#[.int .i64 5, .int .i64 n', .string s', .slice la' l'.length lc', .slice da' d'.length dc'] : Array Value)[o]? := row_cells bo
    have f4 : ∀ o, w2.frozen? ⟨w1.heap.size, o, none⟩ = false := fun o => frozen_of_row _ _ _ _ _ bo
    have r3 : ∀ o, w2.cell? ⟨w.heap.size + 2, o, none⟩ = (#[.int .i64 0, .int .i64 0, .string ⟨#[]⟩, .slice none 0 0, .slice none 0 0] : Array Value)[o]? := row_cells br
    have f3 : ∀ o, w2.frozen? ⟨w.heap.size + 2, o, none⟩ = false := fun o => frozen_of_row _ _ _ _ _ br
    have HNO := Lib.hid hno
    clear hfs hrow ho bo br hno
    go_wp2_with fail
    refine bodyPost_ret (v := .agg #[.int .i64 5, .int .i64 n', .string s', .slice la' l'.length lc', .slice da' fs.length dc']) (by simp [results, Tryd.results54, go_sem, r3]) rfl ?_
    have hsub : fs.Sublist d' := by rw [HF.out]; exact List.filter_sublist
    have HA := own_delD HO1.out HRow.out.2 HRow.out.1 hsub
    have ho5 := ((Only.refl [w1.heap.size, w.heap.size + 2] w2).setCell (p := ⟨w1.heap.size, 4, none⟩) (.inl (by simp)) (.slice da' fs.length dc')).trans ((only_set5 _ (w.heap.size + 2) (.int .i64 5) (.int .i64 n') (.string s') (.slice la' l'.length lc') (.slice da' fs.length dc')).mono (by simp))
    have hblk : ∀ b ∈ blocksOf (T.rows (.mk 5 n' s' la' lc' l' da' dc' fs)), b ∈ blocksOf (T.rows (.mk 5 n' s' la' lc' l' da' dc' d')) := by
      intro b hb
      rcases blocks_mk.1 hb with h | h | h | ⟨f, hf, h⟩
      · exact blocks_mk.2 (.inl h)
      · exact blocks_mk.2 (.inr (.inl (by cases da' <;> exact h)))
      · exact blocks_mk.2 (.inr (.inr (.inl h)))
      · exact blocks_mk.2 (.inr (.inr (.inr ⟨f, hsub.subset hf, h⟩)))
    refine ⟨.mk 5 n' s' la' lc' l' da' dc' fs, rfl, ?_, HA.apart ho5 (fun b hb hc => ?_) (by omega), ?_⟩
    · rw [HW.out, T.val_mk, HF.out, filter_map_other]
    · have := HLT.out b (hblk b hb)
      simp at hc
      omega
    · refine (((Only.of_below (S := []) HB1.out).then_ HRow.out.2 (fun i hi => .inr ?_)).then_ ho5 (by simp; omega)).below
      have h1 := HLT.out i (blocks_mk.2 (.inr (.inl (by simpa using hi))))
      omega
  · have HW := Lib.hid (show withoutV (T.mk kt nt st lat lct lt dat dct dt).val s = zeroV by rw [T.val_mk kt, withoutV, if_neg k5])
    have k5b : ((kt : Int) != 5) = true := by simp [k5]
    go_enter Tryd.func54, Tryd.ntmps54
    go_wp2_with fail
    refine bodyPost_ret (v := zeroT.arg) (by simp [results, Tryd.results54, go_sem, zeroT, T.arg, T.cells]) rfl ⟨zeroT, rfl, by rw [HW.out, zero_val], zero_own _ _, ?_⟩
    exact below3 _ _ _ _
end Go.Proofs.YtkklnfihjikilaaDoor
