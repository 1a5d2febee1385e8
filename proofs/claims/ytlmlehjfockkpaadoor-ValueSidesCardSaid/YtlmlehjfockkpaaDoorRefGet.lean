/- The contracts of the document's own Get and With: no statement is proved here. -/
import Derived.Test.YtlmlehjfockkpaaDoorRefClone
import Derived.Test.YtlmlehjfockkpaaDoorSame
namespace Go.Proofs.YtlmlehjfockkpaaDoor
open Go.RowKit
set_option maxRecDepth 100000

theorem findD_step {l : List (ByteArray × V)} {s : ByteArray} {k : Nat} {x : ByteArray × V} (hx : l[k]? = some x) : findD (l.drop k) s = if x.1.toList == s.toList then some x.2 else findD (l.drop (k + 1)) s := by
  obtain ⟨h1, rfl⟩ := List.getElem?_eq_some_iff.1 hx
  rw [List.drop_eq_getElem_cons h1, findD]
theorem findD_done {l : List (ByteArray × V)} {s : ByteArray} {k : Nat} (h : l.length ≤ k) : findD (l.drop k) s = none := by rw [List.drop_eq_nil_of_le h, findD]
theorem Rel1.start (w : World) (a b : T) : Rel1 w ((w.alloc (.cells a.cells.toArray 25)).alloc (.cells b.cells.toArray 25)) a b :=
  ⟨below2 _ _ _, row_then (heap_alloc_new _ _) (below1 _ _), heap_alloc_at _ _ _ (by simp)⟩

set_option maxHeartbeats 2000000 in
theorem refGet_any (t : T) (ok : t.ok) (s : ByteArray) (w : World) (hin : t.In w) : Calls Tryd.prog 26 #[t.arg, .string s] w (GetsTo t.val s w) := by
  have HR := Lib.hid (Rel1.start w t zeroT)
  have HIN := Lib.hid hin
  obtain ⟨kx, nx, sx, lax, lcx, lx, dax, dcx, dx⟩ := t
  show Calls _ _ #[.agg #[.int .i64 kx, .int .i64 nx, .string sx, .slice lax lx.length lcx, .slice dax dx.length dcx], .string s] _ _
  obtain ⟨-, -, -, -, hs, hl1, hl2, hd1, hd2, okl, okd⟩ := ok.parts
  have OKD := Lib.hid okd
  clear okl okd ok hin
  by_cases k5 : kx = 5
  · subst k5
    have HV := Lib.hid (show getV (T.mk 5 nx sx lax lcx lx dax dcx dx).val s = findD (dx.map fun f => (f.1, f.2.val)) s by rw [T.val_mk, getV, if_pos rfl])
    go_enter Tryd.func26, Tryd.ntmps26
    go_wp2_with fail
    go_loopw [6, 7] (fun i _ wr => ∃ (k : Nat), k ≤ dx.length ∧ i = .int .i64 k ∧ Rel1 w wr (.mk 5 nx sx lax lcx lx dax dcx dx) zeroT ∧ findD (dx.map fun f => (f.1, f.2.val)) s = findD ((dx.map fun f => (f.1, f.2.val)).drop k) s) (fun i _ _ => dx.length - (intOf i).toNat)
    case atStart => exact ⟨0, by omega, rfl, HR.out, rfl⟩
    case round =>
      clear HR
      obtain ⟨k, hk, rfl, R, hf⟩ := hrel
      have HR := Lib.hid R
      have HF := Lib.hid hf
      have q1 : ∀ o, wr.cell? ⟨w.heap.size, o, none⟩ = (#[.int .i64 5, .int .i64 nx, .string sx, .slice lax lx.length lcx, .slice dax dx.length dcx] : Array Value)[o]? := row_cells R.2.1
      have q2 : ∀ o, wr.cell? ⟨w.heap.size + 1, o, none⟩ = (#[.int .i64 0, .int .i64 0, .string ⟨#[]⟩, .slice none 0 0, .slice none 0 0] : Array Value)[o]? := row_cells R.2.2
      have f2 : ∀ o, wr.frozen? ⟨w.heap.size + 1, o, none⟩ = false := fun o => frozen_of_row _ _ _ _ _ R.2.2
      have hz : w.heap.size + 1 < wr.heap.size := lt_of_block R.2.2
      clear R hf
      by_cases h1 : k < dx.length
      · obtain ⟨b, o, f1, k1, n1, s1, la1, lc1, l1, da1, dc1, d1, rfl, hx, hix, x0, x1, x2, x3, x4, x5⟩ := (HIN.out.parts.2.then_ HR.out.1).six h1
        have hx2 : (dx.map fun f => (f.1, f.2.val))[k]? = some (f1, (T.mk k1 n1 s1 la1 lc1 l1 da1 dc1 d1).val) := by rw [List.getElem?_map, hx]; rfl
        have HT := Lib.hid (findD_step (s := s) hx2)
        have H := Lib.hid (refClone_any _ (OKD.out _ (List.mem_of_getElem? hx)).2)
        clear hx hx2
        go_wp2_with (go_at_call 62; refine (H.out _ hix).mono ?_; rintro e w1 ⟨⟨k', n', s', la', lc', l', da', dc', d'⟩, rfl, hv', ho', hb1⟩; dsimp only [T.arg, T.cells]; have HO := Lib.hid ho'; have HV' := Lib.hid hv'; clear hv' ho'; have R1 := HR.out.then_ (below_then hb1 (below1 w1 (.cells #[.int .i64 k', .int .i64 n', .string s', .slice la' l'.length lc', .slice da' d'.length dc'] 25))); have c2 : ∀ o, (w1.alloc (.cells #[.int .i64 k', .int .i64 n', .string s', .slice la' l'.length lc', .slice da' d'.length dc'] 25)).cell? ⟨w.heap.size + 1, o, none⟩ = (#[.int .i64 0, .int .i64 0, .string ⟨#[]⟩, .slice none 0 0, .slice none 0 0] : Array Value)[o]? := row_cells R1.2.2; have g2 : ∀ o, (w1.alloc (.cells #[.int .i64 k', .int .i64 n', .string s', .slice la' l'.length lc', .slice da' d'.length dc'] 25)).frozen? ⟨w.heap.size + 1, o, none⟩ = false := fun o => frozen_of_row _ _ _ _ _ R1.2.2; have HR1 := Lib.hid R1; clear R1)
        · have ht := ‹(_ == _) = true›
          refine bodyPost_ret (v := .tuple #[.agg #[.int .i64 k', .int .i64 n', .string s', .slice la' l'.length lc', .slice da' d'.length dc'], .bool true]) (by simp [results, Tryd.results26, go_sem, c2]) rfl (.inr ⟨.mk k' n' s' la' lc' l' da' dc' d', by rw [HV.out, HF.out, HT.out, if_pos ht, HV'.out], rfl, ?_, ?_⟩)
          · exact (HO.out.keep (Only.of_below (S := []) (below1 _ _)) (by simp) (Nat.le_refl _)).keep (only_set5 _ (w.heap.size + 1) _ _ _ _ _) (by simp; omega) (by omega)
          · exact ((Only.of_below (S := []) HR1.out.1).then_ (only_set5 _ (w.heap.size + 1) _ _ _ _ _) (by simp)).below
        · have ht := ‹(_ == _) = false›
          go_roundw
          case rel => exact ⟨k + 1, by omega, by go_num, HR.out, by rw [HF.out, HT.out, if_neg (by simp [ht])]⟩
          case measure => simp [intOf]; omega
      · go_wp2_with fail
        refine bodyPost_ret (v := .tuple #[.agg #[.int .i64 0, .int .i64 0, .string ⟨#[]⟩, .slice none 0 0, .slice none 0 0], .bool false]) (by simp [results, Tryd.results26, go_sem, q2]) rfl (.inl ⟨by rw [HV.out, HF.out, findD_done (by simp; omega)], rfl, ?_⟩)
        exact ((Only.of_below (S := []) HR.out.1).then_ (only_set5 _ (w.heap.size + 1) _ _ _ _ _) (by simp)).below
  · have HV := Lib.hid (show getV (T.mk kx nx sx lax lcx lx dax dcx dx).val s = none by rw [T.val_mk, getV, if_neg k5])
    have k5b : ((kx : Int) != 5) = true := by simp [k5]
    go_enter Tryd.func26, Tryd.ntmps26
    go_wp2_with fail
    refine bodyPost_ret (v := .tuple #[.agg #[.int .i64 0, .int .i64 0, .string ⟨#[]⟩, .slice none 0 0, .slice none 0 0], .bool false]) (by simp [results, Tryd.results26, go_sem]) rfl (.inl ⟨HV.out, rfl, ?_⟩)
    exact below2 _ _ _
end Go.Proofs.YtlmlehjfockkpaaDoor
