/- The contract of the document's own With: no statement is proved here. -/
import Derived.Test.YtkklnfihjikilaaDoorRefGet
import Derived.Deep.Cut
namespace Go.Proofs.YtkklnfihjikilaaDoor
open Go.RowKit
set_option maxRecDepth 100000

/-- What With has beside it: its own copy of the document in a box, the value in another one, the answer's box. -/
structure RWRel (w W1 wr : World) (g1 g2 : Nat) (O Y : List Value) (y : T) : Prop where
  below0 : Below w.heap.size w wr
  below1 : Below W1.heap.size W1 wr
  old : w.heap.size + 3 ≤ g1 ∧ g1 < W1.heap.size ∧ W1.heap.size ≤ g2 ∧ ∀ b ∈ blocksOf y.rows, b < g2
  boxR : wr.heap[w.heap.size + 2]? = some (.cells #[.int .i64 0, .int .i64 0, .string ⟨#[]⟩, .slice none 0 0, .slice none 0 0] 31 (0, 0))
  boxO : wr.heap[g1]? = some (.cells O.toArray 31 (0, 0))
  boxY : wr.heap[g2]? = some (.cells Y.toArray 31 (0, 0))
  own : y.Own wr W1.heap.size
theorem RWRel.then_ {w W1 wr w' : World} {g1 g2 : Nat} {O Y : List Value} {y : T} (h : RWRel w W1 wr g1 g2 O Y y) (hb : Below wr.heap.size wr w') : RWRel w W1 w' g1 g2 O Y y :=
  ⟨below_then h.below0 hb, below_then h.below1 hb, h.old, row_then h.boxR hb, row_then h.boxO hb, row_then h.boxY hb, h.own.keep (Only.of_below (S := []) hb) (by simp) (Nat.le_refl _)⟩
theorem RWRel.grown {w W1 wr w' : World} {g1 g2 : Nat} {O Y : List Value} {y : T} {row : Option Nat} (h : RWRel w W1 wr g1 g2 O Y y) (hg : wr.grownBy w' row) (hr : ∀ b, row = some b → w.heap.size + 3 ≤ b ∧ b < g1) :
    Below w.heap.size w w' ∧ w'.heap[w.heap.size + 2]? = some (.cells #[.int .i64 0, .int .i64 0, .string ⟨#[]⟩, .slice none 0 0, .slice none 0 0] 31 (0, 0)) ∧ w'.heap[g1]? = some (.cells O.toArray 31 (0, 0)) := by
  have ho := Only.of_grow hg
  exact ⟨((Only.of_below (S := []) h.below0).then_ ho (fun i hi => .inr (by have := hr i (by simpa using hi); omega))).below, keep_row ho h.boxR (fun hc => by have := hr _ (by simpa using hc); omega), keep_row ho h.boxO (fun hc => by have := hr _ (by simpa using hc); omega)⟩
theorem rw_start {w w1 w2 : World} {A X : Obj} {O Y : List Value} {y : T}
    (b1 : Below (((w.alloc A).alloc X).alloc (.cells #[.int .i64 0, .int .i64 0, .string ⟨#[]⟩, .slice none 0 0, .slice none 0 0] 31)).heap.size (((w.alloc A).alloc X).alloc (.cells #[.int .i64 0, .int .i64 0, .string ⟨#[]⟩, .slice none 0 0, .slice none 0 0] 31)) w1)
    (b2 : Below (w1.alloc (.cells O.toArray 31)).heap.size (w1.alloc (.cells O.toArray 31)) w2) (hy : y.Own w2 (w1.alloc (.cells O.toArray 31)).heap.size) :
    RWRel w (w1.alloc (.cells O.toArray 31)) (w2.alloc (.cells Y.toArray 31)) w1.heap.size w2.heap.size O Y y := by
  have z1 : w.heap.size + 3 ≤ w1.heap.size := by have := b1.size; simpa using this
  have z2 := b2.size
  refine ⟨below_then (below_then (below_then (below3 _ _ _ _) b1) (below1 _ _)) (below_then b2 (below1 _ _)), below_then b2 (below1 _ _), ⟨z1, by simp, z2, fun b hb => (owns_lt hy.owns b hb).2⟩, ?_, ?_, heap_alloc_new _ _, hy.keep (Only.of_below (S := []) (below1 _ _)) (by simp) (Nat.le_refl _)⟩
  · exact row_then (row_then (row_then (row_then (heap_alloc_at _ _ _ (by simp)) b1) (below1 _ _)) b2) (below1 _ _)
  · exact row_then (row_then (heap_alloc_new _ _) b2) (below1 _ _)

set_option maxHeartbeats 4000000 in
theorem refWith_any (t x : T) (s : ByteArray) (w : World) (ok : t.ok) (okx : x.ok) (hs : okLen s.size) (room : t.val.room 1) (hin : t.In w) (hix : x.In w) :
    Calls Tryd.prog 38 #[t.arg, .string s, x.arg] w (WithTo (withV t.val s x.val) w) := by
  obtain ⟨i1, hi1, hy0, hy1, hy2⟩ := info_parts info_field
  have I1 := Lib.hid (And.intro hi1 (And.intro hy0 (And.intro hy1 hy2)))
  clear hi1 hy0 hy1 hy2
  have HC := Lib.hid (refClone_any t ok)
  have HX := Lib.hid (refClone_any x okx)
  have HI := Lib.hid hin
  have HIX := Lib.hid hix
  have HS := Lib.hid hs
  obtain ⟨kt, nt, st, lat, lct, lt, dat, dct, dt⟩ := t
  obtain ⟨kx, nx, sx, lax, lcx, lx, dax, dcx, dx⟩ := x
  have HROOM : Hid (okFar ((dt.length + 1) * 96)) := Lib.hid (by rw [T.room_mk] at room; exact room.1)
  clear ok okx hs room hin hix
  show Calls _ _ #[.agg #[.int .i64 kt, .int .i64 nt, .string st, .slice lat lt.length lct, .slice dat dt.length dct], .string s, .agg #[.int .i64 kx, .int .i64 nx, .string sx, .slice lax lx.length lcx, .slice dax dx.length dcx]] _ _
  by_cases k5 : kt = 5
  · subst k5
    have HW := Lib.hid (show withV (T.mk 5 nt st lat lct lt dat dct dt).val s (T.mk kx nx sx lax lcx lx dax dcx dx).val = .mk 5 nt st (lt.map T.val) (putD (dt.map fun f => (f.1, f.2.val)) s (T.mk kx nx sx lax lcx lx dax dcx dx).val) by rw [T.val_mk 5, withV, if_pos rfl])
    generalize withV (T.mk 5 nt st lat lct lt dat dct dt).val s (T.mk kx nx sx lax lcx lx dax dcx dx).val = W at HW ⊢
    go_enter Tryd.func38, Tryd.ntmps38
    go_wp2_with fail
    refine (HC.out _ (HI.out.then_ (below3 _ _ _ _))).mono ?_
    rintro e w1 ⟨⟨k', n', s', la', lc', l', da', dc', d'⟩, rfl, hv1, ho1, b1⟩
    dsimp only [T.arg, T.cells]
    rw [T.val_mk, T.val_mk] at hv1
    injection hv1 with e1 e2 e3 vl vd
    subst e1 e2 e3
    have HO := Lib.hid (ho1.keep (B' := w.heap.size + 3) (Only.refl [] w1) (by simp) (by simp))
    rw [← vl, ← vd] at HW
    have HLEN := Lib.hid (show d'.length = dt.length by simpa using congrArg List.length vd)
    have z1 : w.heap.size + 3 ≤ w1.heap.size := by have := b1.size; simpa using this
    have kx1 : ∀ o, (w1.alloc (.cells #[.int .i64 5, .int .i64 n', .string s', .slice la' l'.length lc', .slice da' d'.length dc'] 31)).cell? ⟨w.heap.size + 1, o, none⟩ = (#[.int .i64 kx, .int .i64 nx, .string sx, .slice lax lx.length lcx, .slice dax dx.length dcx] : Array Value)[o]? := row_cells (row_then (row_then (row_then (heap_alloc_at _ _ _ (by simp)) (below1 _ _)) b1) (below1 _ _))
    have HB1 := Lib.hid b1
    clear vl vd ho1 b1
    go_wp2_with fail
    refine (HX.out _ (HIX.out.then_ (below_then (below_then (below3 _ _ _ _) HB1.out) (below1 _ _)))).mono ?_
    rintro e w2 ⟨⟨k3, n3, s3, la3, lc3, l3, da3, dc3, d3⟩, rfl, hv2, ho2, b2⟩
    dsimp only [T.arg, T.cells]
    have HR := Lib.hid (rw_start (O := [.int .i64 5, .int .i64 n', .string s', .slice la' l'.length lc', .slice da' d'.length dc']) (Y := [.int .i64 k3, .int .i64 n3, .string s3, .slice la3 l3.length lc3, .slice da3 d3.length dc3]) HB1.out b2 ho2)
    have HOW := Lib.hid (HO.out.keep (Only.of_below (S := []) (below1 w1 (.cells [.int .i64 5, .int .i64 n', .string s', .slice la' l'.length lc', .slice da' d'.length dc'].toArray 31))) (by simp) (Nat.le_refl _))
    have HLT := Lib.hid (fun b hb => (owns_lt HO.out.owns b hb))
    have HV := Lib.hid hv2
    have HD := Lib.hid (idxD_put d' s (T.mk kx nx sx lax lcx lx dax dcx dx).val 0)
    have hzW : (w1.alloc (.cells [.int .i64 5, .int .i64 n', .string s', .slice la' l'.length lc', .slice da' d'.length dc'].toArray 31)).heap.size = w1.heap.size + 1 := by simp
    have HZW := Lib.hid hzW
    have z2 : w1.heap.size + 1 ≤ w2.heap.size := by have := b2.size; simpa using this
    clear b2 ho2 hv2 kx1 hzW
    have hdl := HOW.out.ok.parts.2.2.2.2.2.2.2.1
    have hdl2 := HOW.out.ok.parts.2.2.2.2.2.2.2.2.1
    go_wp2_with fail
    generalize (w1.alloc (.cells [.int .i64 5, .int .i64 n', .string s', .slice la' l'.length lc', .slice da' d'.length dc'].toArray 31)) = W1 at HR HOW HZW
    go_loopw [9] (fun i wr => ∃ (k : Nat), k ≤ d'.length ∧ i = .int .i64 k ∧ RWRel w W1 wr w1.heap.size w2.heap.size [.int .i64 5, .int .i64 n', .string s', .slice la' l'.length lc', .slice da' d'.length dc'] [.int .i64 k3, .int .i64 n3, .string s3, .slice la3 l3.length lc3, .slice da3 d3.length dc3] (.mk k3 n3 s3 la3 lc3 l3 da3 dc3 d3) ∧ idxD (d'.map fun f => (f.1, f.2.val)) s 0 = idxD ((d'.map fun f => (f.1, f.2.val)).drop k) s k) (fun i _ => d'.length - (intOf i).toNat)
    case atStart => exact ⟨0, by omega, rfl, HR.out, by simp⟩
    case round =>
      clear HR
      obtain ⟨k, hk, rfl, R, hf⟩ := hrel
      have HR := Lib.hid R
      have HF := Lib.hid hf
      have q1 : ∀ o, wr.cell? ⟨w1.heap.size, o, none⟩ = (#[.int .i64 5, .int .i64 n', .string s', .slice la' l'.length lc', .slice da' d'.length dc'] : Array Value)[o]? := row_cells R.boxO
      have q2 : ∀ o, wr.cell? ⟨w2.heap.size, o, none⟩ = (#[.int .i64 k3, .int .i64 n3, .string s3, .slice la3 l3.length lc3, .slice da3 d3.length dc3] : Array Value)[o]? := row_cells R.boxY
      have hz : w2.heap.size < wr.heap.size := lt_of_block R.boxY
      clear R hf
      by_cases h1 : k < d'.length
      · obtain ⟨b, o, f1, k1, n1, s1, la1, lc1, l1, da1, dc1, d1, rfl, hx, hix, x0, x1, x2, x3, x4, x5⟩ := (HOW.out.in_.parts.2.then_ HR.out.below1).six h1
        have hx2 : (d'.map fun f => (f.1, f.2.val))[k]? = some (f1, (T.mk k1 n1 s1 la1 lc1 l1 da1 dc1 d1).val) := by rw [List.getElem?_map, hx]; rfl
        have HT := Lib.hid (idxD_step (s := s) hx2)
        have HX1 := Lib.hid hx
        clear hx hx2
        have o2 : wr.ownsRow (w.heap.size + 3) 52 6 (.slice (some ⟨b, o, none⟩) d'.length dc') d'.length (d'.flatMap fcells) := own_rowD (HOW.out.keep (Only.of_below (S := []) HR.out.below1) (by simp) (Nat.le_refl _))
        have ho0 : o = 0 := by
          obtain ⟨m, hm⟩ : ∃ m, d'.length = m + 1 := ⟨d'.length - 1, by omega⟩
          rw [hm] at o2
          obtain ⟨g, hg, -⟩ := own_live o2
          exact (show b = g ∧ o = 0 by simpa using hg).2
        subst ho0
        obtain ⟨⟨v1, c1⟩, f1'⟩ := own_room o2 (j := k * 6 + 1) (by omega)
        obtain ⟨⟨v2, c2⟩, f2'⟩ := own_room o2 (j := k * 6 + 2) (by omega)
        obtain ⟨⟨v3, c3⟩, f3'⟩ := own_room o2 (j := k * 6 + 3) (by omega)
        obtain ⟨⟨v4, c4⟩, f4'⟩ := own_room o2 (j := k * 6 + 4) (by omega)
        obtain ⟨⟨v5, c5⟩, f5'⟩ := own_room o2 (j := k * 6 + 5) (by omega)
        have hbm : b ∈ blocksOf (T.rows (.mk 5 n' s' la' lc' l' (some ⟨b, 0, none⟩) dc' d')) := blocks_mk.2 (.inr (.inl rfl))
        have hb1 := (HLT.out b hbm).1
        have hb2 := (HLT.out b hbm).2
        simp only [Nat.zero_add] at x0 x1 x2 x3 x4 x5
        clear o2 hbm x1 x2 x3 x4 x5
        have nb1 : ¬ w1.heap.size = b := by omega
        have nb2 : ¬ b = w1.heap.size := by omega
        have nb3 : ¬ w.heap.size + 2 = b := by omega
        have nb4 : ¬ b = w.heap.size + 2 := by omega
        by_cases ht : (f1.toList == s.toList) = true
        · go_upto_region 10 with (fail)
          generalize hw4 : World.setCell (World.setCell (World.setCell (World.setCell (World.setCell wr _ _) _ _) _ _) _ _) _ _ = w4
          have hp4 : putCells wr b (k * 6 + 1) [.int .i64 k3, .int .i64 n3, .string s3, .slice la3 l3.length lc3, .slice da3 d3.length dc3] = w4 := by
            rw [← hw4, put5]
          have ho4 : Only [b] wr w4 := hp4 ▸ put_only _ _ _ _
          have r4 : ∀ o, w4.cell? ⟨w1.heap.size, o, none⟩ = (#[.int .i64 5, .int .i64 n', .string s', .slice la' l'.length lc', .slice (some ⟨b, 0, none⟩) d'.length dc'] : Array Value)[o]? := row_cells (keep_row ho4 HR.out.boxO (by simp; omega))
          have b3 := keep_row ho4 HR.out.boxR (by simp; omega)
          have r3 : ∀ o, w4.cell? ⟨w.heap.size + 2, o, none⟩ = (#[.int .i64 0, .int .i64 0, .string ⟨#[]⟩, .slice none 0 0, .slice none 0 0] : Array Value)[o]? := row_cells b3
          have fz3 : ∀ o, w4.frozen? ⟨w.heap.size + 2, o, none⟩ = false := fun o => frozen_of_row _ _ _ _ _ b3
          obtain ⟨d1', d2', hd', hl1⟩ := split_at HX1.out
          have H3 : putD (d'.map fun f => (f.1, f.2.val)) s (T.mk kx nx sx lax lcx lx dax dcx dx).val = (d1'.map fun f => (f.1, f.2.val)) ++ (f1, (T.mk kx nx sx lax lcx lx dax dcx dx).val) :: (d2'.map fun f => (f.1, f.2.val)) := by
            rcases HD.out with ⟨h1, h2⟩ | ⟨e1, e2, f, y, h1, h2, h3⟩
            · exfalso
              rw [HF.out, HT.out, if_pos ht] at h1
              omega
            · rw [HF.out, HT.out, if_pos ht] at h2
              have hl2 : d1'.length = e1.length := by omega
              rw [hd'] at h1
              obtain ⟨rfl, h4⟩ := List.append_inj h1 hl2
              injection h4 with h5 h6
              injection h5 with h7 h8
              subst h6 h7
              exact h3
          replace H3 := Lib.hid H3
          replace hd' := Lib.hid hd'
          replace hl1 := Lib.hid hl1
          replace hp4 := Lib.hid hp4
          clear hw4 q1 q2 b3
          simp only [Nat.add_assoc, Nat.reduceAdd]
          go_wp2_with fail
          have hd1 := hd'.out
          subst hd1
          have HA := own_setD HOW.out HR.out.own HR.out.below1 (Nat.le_refl _) (by have := HR.out.old; omega)
          rw [show T.cells (.mk k3 n3 s3 la3 lc3 l3 da3 dc3 d3) = [.int .i64 k3, .int .i64 n3, .string s3, .slice la3 l3.length lc3, .slice da3 d3.length dc3] from rfl, hl1.out, hp4.out] at HA
          have ho5 := only_set5 w4 (w.heap.size + 2) (.int .i64 5) (.int .i64 n') (.string s') (.slice la' l'.length lc') (.slice (some ⟨b, 0, none⟩) (d1' ++ (f1, .mk k1 n1 s1 la1 lc1 l1 da1 dc1 d1) :: d2').length dc')
          refine bodyPost_ret (v := .agg #[.int .i64 5, .int .i64 n', .string s', .slice la' l'.length lc', .slice (some ⟨b, 0, none⟩) (d1' ++ (f1, .mk k1 n1 s1 la1 lc1 l1 da1 dc1 d1) :: d2').length dc']) (by simp [results, Tryd.results38, go_sem, r3]) rfl ?_
          refine ⟨.mk 5 n' s' la' lc' l' (some ⟨b, 0, none⟩) dc' (d1' ++ (f1, .mk k3 n3 s3 la3 lc3 l3 da3 dc3 d3) :: d2'), by simp [T.arg, T.cells], ?_, HA.keep ho5 (by simp) (by omega), (((Only.of_below (S := []) HR.out.below0).then_ ho4 (by simp; omega)).then_ ho5 (by simp)).below⟩
          rw [HW.out, H3.out, T.val_mk, List.map_append, List.map_cons, HV.out]
        · have htf : (f1.toList == s.toList) = false := by simpa using ht
          clear ht
          go_wp2_with fail
          have ht := htf
          go_roundw
          case rel => exact ⟨k + 1, by omega, by go_num, HR.out, by rw [HF.out, HT.out, if_neg (by simp [ht])]⟩
          case measure => simp [intOf]; omega
      · have hkl : k = d'.length := by omega
        subst hkl
        have H2 : putD (d'.map fun f => (f.1, f.2.val)) s (T.mk kx nx sx lax lcx lx dax dcx dx).val = (d'.map fun f => (f.1, f.2.val)) ++ [(s, (T.mk kx nx sx lax lcx lx dax dcx dx).val)] := by
          rcases HD.out with ⟨h1, h2⟩ | ⟨d1, d2, f, y, h1, h2, h3⟩
          · exact h2
          · exfalso
            rw [HF.out, idxD_done (by simp)] at h2
            omega
        replace H2 := Lib.hid H2
        have hdr : (d'.length + 1) * 96 ≤ 140737488355328 := by have := HROOM.out; unfold okFar at this; rw [HLEN.out]; exact this
        have HRM := Lib.hid hdr
        have HROW := Lib.hid (own_rowD (HOW.out.keep (Only.of_below (S := []) HR.out.below1) (by simp) (Nat.le_refl _)))
        have HNB := Lib.hid (fun b (hb : (Value.slice da' d'.length dc').ownBlock = some b) => HLT.out b (blocks_mk.2 (.inr (.inl hb))))
        clear hdr HD HF
        go_wp2_with (at_builtin; refine wpList_append_lies _ rfl (.tmp 41) (.tmp 45) 29 rfl (w.heap.size + 3) 52 i1 _ 6 96 Tryd.underlying29 I1.out.1 I1.out.2.1 I1.out.2.2.1 I1.out.2.2.2 rfl (by decide) (.slice da' d'.length dc') d'.length _ rfl (HROW.out.alloc _) ⟨wr.heap.size, 0, none⟩ 1 1 [.string s, .int .i64 k3, .int .i64 n3, .string s3, .slice la3 l3.length lc3, .slice da3 d3.length dc3] rfl rfl (news_at _ #[.string s, .int .i64 k3, .int .i64 n3, .string s3, .slice la3 l3.length lc3, .slice da3 d3.length dc3] _ _ rfl) (by simp [Value.oneCell']) (by decide) (by unfold maxLen; omega) HRM.out (by simp; omega) _ rfl ?_; intro g cap w4 hown4 hgrow4 hgd4 hlt4; have G := (HR.out.then_ (below1 _ _)).grown hgrow4 HNB.out; have r4 : ∀ o, w4.cell? ⟨w1.heap.size, o, none⟩ = (#[.int .i64 5, .int .i64 n', .string s', .slice la' l'.length lc', .slice da' d'.length dc'] : Array Value)[o]? := row_cells G.2.2; have fz : ∀ o, w4.frozen? ⟨w1.heap.size, o, none⟩ = false := fun o => frozen_of_row _ _ _ _ _ G.2.2; have r3 : ∀ o, w4.cell? ⟨w.heap.size + 2, o, none⟩ = (#[.int .i64 0, .int .i64 0, .string ⟨#[]⟩, .slice none 0 0, .slice none 0 0] : Array Value)[o]? := row_cells G.2.1; have fz3 : ∀ o, w4.frozen? ⟨w.heap.size + 2, o, none⟩ = false := fun o => frozen_of_row _ _ _ _ _ G.2.1; have HG := Lib.hid G; clear G)
        refine bodyPost_ret (v := .agg #[.int .i64 5, .int .i64 n', .string s', .slice la' l'.length lc', .slice (some ⟨g, 0, none⟩) (d'.length + 1) cap]) (by simp [results, Tryd.results38, go_sem, r3]) rfl ?_
        have HR2 := HR.out.then_ (below1 wr (.cells #[.string s, .int .i64 k3, .int .i64 n3, .string s3, .slice la3 l3.length lc3, .slice da3 d3.length dc3] 52))
        have hzW := HZW.out
        have HA := own_addD HOW.out HR2.own HR2.below1 (Nat.le_refl _) (by omega) HS.out (by unfold okFar; exact HRM.out) (cap_of hown4) hown4 hgrow4 (hgd4.imp id (fun h => by rw [h]; simp))
        have hap : ∀ b ∈ blocksOf (T.rows (.mk 5 n' s' la' lc' l' (some ⟨g, 0, none⟩) cap (d' ++ [(s, .mk k3 n3 s3 la3 lc3 l3 da3 dc3 d3)]))), b ≠ w1.heap.size := by
          intro b hb
          have hold : b ∈ blocksOf (T.rows (.mk 5 n' s' la' lc' l' da' dc' d')) → b ≠ w1.heap.size := fun h => by have := (HLT.out b h).2; omega
          rcases blocks_mk.1 hb with h | h | h | ⟨f, hf, h⟩
          · exact hold (blocks_mk.2 (.inl h))
          · simp only [Value.ownBlock, Option.some.injEq] at h
            subst h
            rcases hgd4 with h | h
            · exact hold (blocks_mk.2 (.inr (.inl h)))
            · have h9 : g = wr.heap.size + 1 := by rw [h]; simp
              omega
          · exact hold (blocks_mk.2 (.inr (.inr (.inl h))))
          · rcases List.mem_append.1 hf with hf | hf
            · exact hold (blocks_mk.2 (.inr (.inr (.inr ⟨f, hf, h⟩))))
            · simp only [List.mem_singleton] at hf
              subst hf
              have h3 : W1.heap.size ≤ b := (owns_lt HR.out.own.owns b h).1
              intro e
              rw [e, hzW] at h3
              omega
        have ho5 := ((Only.refl [w1.heap.size, w.heap.size + 2] w4).setCell (p := ⟨w1.heap.size, 4, none⟩) (.inl (by simp)) (.slice (some ⟨g, 0, none⟩) (d'.length + 1) cap)).trans ((only_set5 _ (w.heap.size + 2) (.int .i64 5) (.int .i64 n') (.string s') (.slice la' l'.length lc') (.slice (some ⟨g, 0, none⟩) (d'.length + 1) cap)).mono (by simp))
        refine ⟨.mk 5 n' s' la' lc' l' (some ⟨g, 0, none⟩) cap (d' ++ [(s, .mk k3 n3 s3 la3 lc3 l3 da3 dc3 d3)]), by simp [T.arg, T.cells], ?_, HA.apart ho5 (fun b hb hc => ?_) (by omega), ?_⟩
        · rw [HW.out, H2.out, T.val_mk, List.map_append]
          simp only [List.map_cons, List.map_nil, HV.out]
        · have h1 := hap b hb
          have h2 := (owns_lt HA.owns b hb).1
          simp at hc
          omega
        · exact ((Only.of_below (S := []) HG.out.1).then_ ho5 (by simp; omega)).below
  · have HW := Lib.hid (show withV (T.mk kt nt st lat lct lt dat dct dt).val s (T.mk kx nx sx lax lcx lx dax dcx dx).val = zeroV by rw [T.val_mk kt, withV, if_neg k5])
    have k5b : ((kt : Int) != 5) = true := by simp [k5]
    go_enter Tryd.func38, Tryd.ntmps38
    go_wp2_with fail
    refine bodyPost_ret (v := zeroT.arg) (by simp [results, Tryd.results38, go_sem, zeroT, T.arg, T.cells]) rfl ⟨zeroT, rfl, by rw [HW.out, zero_val], zero_own _ _, ?_⟩
    exact below3 _ _ _ _
end Go.Proofs.YtkklnfihjikilaaDoor
