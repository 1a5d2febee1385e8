/- The contract of pick and Pick: no statement is proved here. -/
import Derived.Test.YtkklnfihjikilaaDoorPathPick
namespace Go.Proofs.YtkklnfihjikilaaDoor
open Go.RowKit
set_option maxRecDepth 100000

set_option maxHeartbeats 4000000 in
theorem pick_any (t : T) : t.ok → PickAt t := by
  induction t using T.ind with
  | h kx nx sx lax lcx lx dax dcx dx ihl ihd =>
  intro ok ps pa pc w hin hps
  show Calls _ _ #[.agg #[.int .i64 kx, .int .i64 nx, .string sx, .slice lax lx.length lcx, .slice dax dx.length dcx], .slice pa ps.length pc] _ _
  obtain ⟨-, -, -, -, hs, hl1, hl2, hd1, hd2, okl, okd⟩ := ok.parts
  have IHL := Lib.hid (fun x hx => ihl x hx (okl x hx))
  have IHD := Lib.hid (fun x hx => ihd x hx (okd x hx).2)
  have HO := Lib.hid ok
  have HI := Lib.hid hin
  have HP := Lib.hid hps
  have OKL := Lib.hid okl
  have hlen := hps.len
  have W2 := Lib.hid (below2 w (.cells #[.int .i64 kx, .int .i64 nx, .string sx, .slice lax lx.length lcx, .slice dax dx.length dcx] 31) (.cells #[.int .i64 0, .int .i64 0, .string ⟨#[]⟩, .slice none 0 0, .slice none 0 0] 31))
  clear ihl ihd okl okd hin ok hps
  cases ps with
  | nil =>
    rw [pickV_nil]
    have HC := Lib.hid (clone_any (.mk kx nx sx lax lcx lx dax dcx dx) HO.out)
    go_enter Tryd.func46, Tryd.ntmps46
    go_wp2_with (go_at_call 32; refine (HC.out _ (HI.out.then_ W2.out)).mono ?_; rintro e w2 ⟨⟨k3, n3, s3, la3, lc3, l3, da3, dc3, d3⟩, rfl, hv2, ho2, b2⟩; dsimp only [T.arg, T.cells]; have q2 := row_then (heap_alloc2_new w _ _) b2; have hz2 := row_cells q2; have hf2 := row_free q2)
    refine bodyPost_ret (v := .agg #[.int .i64 k3, .int .i64 n3, .string s3, .slice la3 l3.length lc3, .slice da3 d3.length dc3]) (by simp [results, Tryd.results46, go_sem, hz2]) rfl ?_
    exact stored_with ho2 (by simp) (below_then W2.out b2) hv2
  | cons p r =>
    obtain ⟨b, o, rfl, hc, hpo⟩ := HP.out.head
    simp only [List.length_cons] at hlen ⊢
    have hc1 : ∀ A B, ((w.alloc A).alloc B).cell? ⟨b, o, none⟩ = some (.string p) := fun A B => ((below2 w A B).cell (cell_lt hc)).trans hc
    have hcap : r.length + 1 ≤ pc := HP.out.cap.1
    have hcap2 := HP.out.cap.2
    clear hc
    by_cases h5 : kx = 5
    · subst h5
      have HPC := Lib.hid (pick_child (v := (T.mk 5 nx sx lax lcx lx dax dcx dx).val) (p := p) (r := r) (by rw [T.val_mk]; rfl))
      have HS := Lib.hid (stand_any (T.mk 5 nx sx lax lcx lx dax dcx dx) HO.out p)
      rcases stand_child (T.mk 5 nx sx lax lcx lx dax dcx dx) p with ⟨s1, s2⟩ | ⟨j, y, s1, s2, s3⟩
      · rw [s1] at HS
        rw [s2] at HPC
        clear s1 s2
        go_enter Tryd.func46, Tryd.ntmps46
        go_wp2_with fail
        have q0 := Lib.hid (heap_alloc2_old w (.cells #[.int .i64 5, .int .i64 nx, .string sx, .slice lax lx.length lcx, .slice dax dx.length dcx] 31) (.cells #[.int .i64 0, .int .i64 0, .string ⟨#[]⟩, .slice none 0 0, .slice none 0 0] 31))
        have q1 := row_cells (heap_alloc2_old w (.cells #[.int .i64 5, .int .i64 nx, .string sx, .slice lax lx.length lcx, .slice dax dx.length dcx] 31) (.cells #[.int .i64 0, .int .i64 0, .string ⟨#[]⟩, .slice none 0 0, .slice none 0 0] 31))
        have q2 := Lib.hid (heap_alloc2_new w (.cells #[.int .i64 5, .int .i64 nx, .string sx, .slice lax lx.length lcx, .slice dax dx.length dcx] 31) (.cells #[.int .i64 0, .int .i64 0, .string ⟨#[]⟩, .slice none 0 0, .slice none 0 0] 31))
        have q3 := hc1 (.cells #[.int .i64 5, .int .i64 nx, .string sx, .slice lax lx.length lcx, .slice dax dx.length dcx] 31) (.cells #[.int .i64 0, .int .i64 0, .string ⟨#[]⟩, .slice none 0 0, .slice none 0 0] 31)
        have q4 := W2
        clear hc1 W2
        generalize (w.alloc (.cells #[.int .i64 5, .int .i64 nx, .string sx, .slice lax lx.length lcx, .slice dax dx.length dcx] 31)).alloc (.cells #[.int .i64 0, .int .i64 0, .string ⟨#[]⟩, .slice none 0 0, .slice none 0 0] 31) = W at q0 q1 q2 q3 q4 ⊢
        go_still_tail 4, (by kernel_rfl)
        change wpList _ _ _ _ _ W.drew
        go_wp2_with (go_at_call 42; refine (HS.out W.drew (HI.out.then_ q4.out).drew').mono ?_; rintro e w1 ⟨rfl, b1'⟩; have b1 := drew_below b1'; clear b1'; have q5 := row_then q2.out b1; have hz5 := row_cells q5; have hf5 := row_free q5)
        refine bodyPost_ret (v := .agg #[.int .i64 0, .int .i64 0, .string ⟨#[]⟩, .slice none 0 0, .slice none 0 0]) (by simp [results, Tryd.results46, go_sem, hz5]) rfl ?_
        have hw := stored_with (w := w) (v := zeroV) (zero_own w1 (w.heap.size + 2)) (Nat.le_refl _) (below_then q4.out b1) zero_val
        rw [HPC.out]
        exact hw
      · rw [s1] at HS
        rw [s2] at HPC
        rw [kidT, if_pos rfl, Option.map_eq_some_iff] at s3
        obtain ⟨⟨fy, y'⟩, hy, rfl⟩ := s3
        have hj : j < dx.length := lt_of_get hy
        have HY := Lib.hid (IHD.out _ (List.mem_of_getElem? hy))
        have HYG := Lib.hid hy
        clear hy
        clear s1 s2
        go_enter Tryd.func46, Tryd.ntmps46
        go_wp2_with fail
        have q0 := Lib.hid (heap_alloc2_old w (.cells #[.int .i64 5, .int .i64 nx, .string sx, .slice lax lx.length lcx, .slice dax dx.length dcx] 31) (.cells #[.int .i64 0, .int .i64 0, .string ⟨#[]⟩, .slice none 0 0, .slice none 0 0] 31))
        have q1 := row_cells (heap_alloc2_old w (.cells #[.int .i64 5, .int .i64 nx, .string sx, .slice lax lx.length lcx, .slice dax dx.length dcx] 31) (.cells #[.int .i64 0, .int .i64 0, .string ⟨#[]⟩, .slice none 0 0, .slice none 0 0] 31))
        have q2 := Lib.hid (heap_alloc2_new w (.cells #[.int .i64 5, .int .i64 nx, .string sx, .slice lax lx.length lcx, .slice dax dx.length dcx] 31) (.cells #[.int .i64 0, .int .i64 0, .string ⟨#[]⟩, .slice none 0 0, .slice none 0 0] 31))
        have q3 := hc1 (.cells #[.int .i64 5, .int .i64 nx, .string sx, .slice lax lx.length lcx, .slice dax dx.length dcx] 31) (.cells #[.int .i64 0, .int .i64 0, .string ⟨#[]⟩, .slice none 0 0, .slice none 0 0] 31)
        have q4 := W2
        clear hc1 W2
        generalize (w.alloc (.cells #[.int .i64 5, .int .i64 nx, .string sx, .slice lax lx.length lcx, .slice dax dx.length dcx] 31)).alloc (.cells #[.int .i64 0, .int .i64 0, .string ⟨#[]⟩, .slice none 0 0, .slice none 0 0] 31) = W at q0 q1 q2 q3 q4 ⊢
        go_still_tail 4, (by kernel_rfl)
        change wpList _ _ _ _ _ W.drew
        go_wp2_with (go_at_call 42; refine (HS.out W.drew (HI.out.then_ q4.out).drew').mono ?_; rintro e w1 ⟨rfl, b1'⟩; have b1 := drew_below b1'; clear b1')
        have q5 := Lib.hid (row_then q2.out b1)
        have q7 := row_cells (row_then q0.out b1)
        have B1 := Lib.hid (below_then q4.out b1)
        have b1s : w.heap.size + 2 ≤ w1.heap.size := by
          have h1 := lt_of_block q5.out
          omega
        obtain ⟨bd, od, fx, k', n', s', la', lc', l', da', dc', d', rfl, hx, hix, x0, x1, x2, x3, x4, x5⟩ := (HI.out.parts.2.then_ B1.out).six hj
        cases HYG.out.symm.trans hx
        have HIY := Lib.hid (kid_in (x := T.mk k' n' s' la' lc' l' da' dc' d') (j := j) HI.out (by rw [kidT, if_pos rfl, hx]; rfl))
        have hj0 : ¬ ((j : Int) < 0) := by omega
        have hj1 : (1 : Int) ≤ (r.length : Int) + 1 := by omega
        clear q1 q3 q4 q2 b1 hx hix x0
        by_cases hpc : pc = 1
        · subst hpc
          have HPT := Lib.hid (HP.out.last (some ⟨b, o, none⟩)).2
          obtain rfl := (HP.out.last (some ⟨b, o, none⟩)).1
          simp only [List.length_nil, Nat.zero_add, Int.zero_add, Int.cast_ofNat_Int]
          go_still_tail 8, (by kernel_rfl)
          change wpList _ _ _ _ _ w1.drew
          go_wp2_with (go_at_call 46; refine (HY.out _ (some ⟨b, o, none⟩) 0 w1.drew ((HIY.out.then_ B1.out).drew') (((HPT.out).then_ B1.out).drew')).mono ?_; rintro e w2 ⟨⟨k3, n3, s3, la3, lc3, l3, da3, dc3, d3⟩, rfl, hv2, ho2, b2'⟩; dsimp only [T.arg, T.cells]; have b2 := drew_below b2'; have q6 := row_then q5.out b2; have hz6 := row_cells q6; have hf6 := row_free q6)
          refine bodyPost_ret (v := .agg #[.int .i64 k3, .int .i64 n3, .string s3, .slice la3 l3.length lc3, .slice da3 d3.length dc3]) (by simp [results, Tryd.results46, go_sem, hz6]) rfl ?_
          exact stored_with ho2 (by have := b1s; simpa using this) (below_then B1.out b2) (hv2.trans HPC.out.symm)
        · have HPT := Lib.hid HP.out.tail
          go_still_tail 8, (by kernel_rfl)
          change wpList _ _ _ _ _ w1.drew
          go_wp2_with (go_at_call 46; refine (HY.out _ (some ⟨b, o + 1, none⟩) (pc - 1) w1.drew ((HIY.out.then_ B1.out).drew') (((HPT.out).then_ B1.out).drew')).mono ?_; rintro e w2 ⟨⟨k3, n3, s3, la3, lc3, l3, da3, dc3, d3⟩, rfl, hv2, ho2, b2'⟩; dsimp only [T.arg, T.cells]; have b2 := drew_below b2'; have q6 := row_then q5.out b2; have hz6 := row_cells q6; have hf6 := row_free q6)
          refine bodyPost_ret (v := .agg #[.int .i64 k3, .int .i64 n3, .string s3, .slice la3 l3.length lc3, .slice da3 d3.length dc3]) (by simp [results, Tryd.results46, go_sem, hz6]) rfl ?_
          exact stored_with ho2 (by have := b1s; simpa using this) (below_then B1.out b2) (hv2.trans HPC.out.symm)
    · have h5b : ((kx : Int) == 5) = false := by simp [h5]
      by_cases h6 : kx = 6
      · subst h6
        have HE := Lib.hid (fun w1 h1 h2 => pickEach_any lax lcx lx (some ⟨b, o, none⟩) pc (p :: r) w1 h1 h2 hl2 OKL.out IHL.out)
        have HV := Lib.hid (show pickV (T.mk 6 nx sx lax lcx lx dax dcx dx).val (p :: r) = .mk 6 0 ⟨#[]⟩ (pickEach (lx.map T.val) (p :: r)) [] by rw [T.val_mk, pickV, if_neg (by omega), if_pos rfl])
        clear h5
        go_enter Tryd.func46, Tryd.ntmps46
        go_wp2_with (go_at_call 66; refine (HE.out _ (HI.out.parts.1.then_ W2.out) (HP.out.then_ W2.out)).mono ?_; rintro e w2 ⟨⟨k3, n3, s3, la3, lc3, l3, da3, dc3, d3⟩, rfl, hv2, ho2, b2⟩; dsimp only [T.arg, T.cells]; have q2 := row_then (heap_alloc2_new w _ _) b2; have hz2 := row_cells q2; have hf2 := row_free q2)
        refine bodyPost_ret (v := .agg #[.int .i64 k3, .int .i64 n3, .string s3, .slice la3 l3.length lc3, .slice da3 d3.length dc3]) (by simp [results, Tryd.results46, go_sem, hz2]) rfl ?_
        exact stored_with ho2 (by simp) (below_then W2.out b2) (hv2.trans HV.out.symm)
      · have h6b : ((kx : Int) == 6) = false := by simp [h6]
        have HV := Lib.hid (show pickV (T.mk kx nx sx lax lcx lx dax dcx dx).val (p :: r) = zeroV by rw [T.val_mk, pickV, if_neg h5, if_neg h6])
        clear h5 h6
        go_enter Tryd.func46, Tryd.ntmps46
        go_wp2_with fail
        refine bodyPost_ret (v := .agg #[.int .i64 0, .int .i64 0, .string ⟨#[]⟩, .slice none 0 0, .slice none 0 0]) (by simp [results, Tryd.results46, go_sem]) rfl ?_
        exact ⟨zeroT, rfl, by rw [HV.out, zero_val], zero_own _ _, W2.out⟩

set_option maxHeartbeats 1000000 in
theorem Pick_any (t : T) (ok : t.ok) (pa : Option Addr) (pc : Nat) (ps : List ByteArray) (w : World) (hin : t.In w) (hps : Parts w pa pc ps) (h10 : ps.length ≤ 10) : Calls Tryd.prog 24 #[t.arg, .slice pa ps.length pc] w (WithTo (pickV t.val ps) w) := by
  have HK := Lib.hid (pick_any t ok ps pa pc)
  have HP := Lib.hid hps
  have HI := Lib.hid hin
  obtain ⟨kx, nx, sx, lax, lcx, lx, dax, dcx, dx⟩ := t
  show Calls _ _ #[.agg #[.int .i64 kx, .int .i64 nx, .string sx, .slice lax lx.length lcx, .slice dax dx.length dcx], .slice pa ps.length pc] _ _
  have h10b : decide ((10 : Int) < (ps.length : Int)) = false := decide_eq_false (by omega)
  clear ok hps hin
  go_enter Tryd.func24, Tryd.ntmps24
  go_wp2_with (first
    | (go_at_call 28; refine (tooMany_any _ _ _ _).mono ?_; rintro e w1 ⟨rfl, rfl⟩; rw [h10b])
    | (go_at_call 46; refine (HK.out _ (HI.out.then_ (below2 _ _ _)) (HP.out.then_ (below2 _ _ _))).mono ?_; rintro e w2 ⟨⟨k3, n3, s3, la3, lc3, l3, da3, dc3, d3⟩, rfl, hv2, ho2, b2⟩; dsimp only [T.arg, T.cells]; have q2 := row_then (heap_alloc2_new w _ _) b2; have hz2 := row_cells q2; have hf2 := row_free q2))
  refine bodyPost_ret (v := .agg #[.int .i64 k3, .int .i64 n3, .string s3, .slice la3 l3.length lc3, .slice da3 d3.length dc3]) (by simp [results, Tryd.results24, go_sem, hz2]) rfl ?_
  exact stored_with ho2 (by simp) (below_then (below2 _ _ _) b2) hv2
end Go.Proofs.YtkklnfihjikilaaDoor
