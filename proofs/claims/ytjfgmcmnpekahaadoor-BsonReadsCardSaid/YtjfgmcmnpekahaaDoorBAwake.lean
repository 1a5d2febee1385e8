/- The contract of awake, the small case that each law of layer 2 begins with. No statement is proved here. -/
import Derived.Test.YtjfgmcmnpekahaaDoorBAwV
namespace Go.Proofs.YtjfgmcmnpekahaaDoor
open Go.RowKit
set_option maxRecDepth 100000

theorem row_inB {w : World} {g : Nat} {q : List Int} (h : w.heap[g]? = some (.cells (btV q).toArray 5 (0, 0))) : InB w (some ⟨g, 0, none⟩) q := by
  intro i x hx
  refine ⟨g, 0, rfl, ?_⟩
  rw [Nat.zero_add, row_cells h]
  simp [btV, hx]
set_option maxHeartbeats 8000000 in
theorem awake02_any (w : World) {B : Nat} (hE : Env2 w B) (hB : B ≤ w.heap.size) : Calls Tryd.prog 8 #[] w fun e w' => e = .returned (.bool true) ∧ Below w.heap.size w w' := by
  have HE := Lib.hid hE
  clear hE
  go_enter Tryd.func8, Tryd.ntmps8
  go_wp2_with fail
  refine (int_any _ _).mono ?_
  rintro e w1 ⟨rfl, b1⟩
  have B1 := Lib.hid b1
  clear b1
  go_wp2_with fail
  refine (doc_any _ _ _).mono ?_
  rintro e w2 ⟨gd, rfl, hd, b2⟩
  have B2 := Lib.hid (below_then B1.out b2)
  have HD := Lib.hid hd
  clear b2 hd
  go_wp2_with fail
  have K1 := encode_any (docT gd nameA 1) (docT_ok (by unfold okInt; omega) (by unfold okLen nameA; decide)) w2 (docT_in HD.out) (HE.out.then_ B2.out) (Nat.le_trans hB B2.out.size)
  rw [docT_val, ex_enc1] at K1
  refine K1.mono ?_
  rintro e w3 ⟨v3, rfl, ho, b3⟩
  obtain ⟨g3, c3, hv3, -⟩ := ho.form (by simp)
  replace hv3 : v3 = .slice (some ⟨g3, 0, none⟩) 16 c3 := hv3
  subst hv3
  obtain ⟨a', c', e', ib, -, -, -⟩ := ho.shape
  injection e' with e1 e2 e3
  clear e2
  subst e1 e3
  have HI := Lib.hid ib
  have B3 := Lib.hid (below_then B2.out b3)
  clear K1 ho ib b3 HD B1 B2
  dsimp only
  go_wp2_with fail
  have X3 := Lib.hid (below1 w3 (.cells (btV exB).toArray 5))
  have K2 := Dec_any (some ⟨w3.heap.size, 0, none⟩) 14 exB 40 (reads_all 40).1 (w3.alloc (.cells (btV exB).toArray 5)) (row_inB (heap_alloc_new w3 _)) (by decide) (by decide) (by intro b hb; simp [exB] at hb; omega) (fun b o e _ => by injection e with e; injection e with e1; subst e1; simp) ((HE.out.then_ B3.out).then_ X3.out) (Nat.le_trans hB (Nat.le_trans B3.out.size X3.out.size)) (by decide)
  rw [ex_dec2] at K2
  refine K2.mono ?_
  rintro e w4 ⟨b4, t4, rfl, hv4, ho4⟩
  obtain ⟨la, lc, dc, g4, o4, ht4, k4, hg4⟩ := ex_lies ho4 hv4
  rw [ht4]
  have B4 := Lib.hid (below_then B3.out (below_then X3.out b4))
  have HI4 := Lib.hid (HI.out.then_ (below_then X3.out b4))
  have K4 := Lib.hid (And.intro k4 hg4)
  clear K2 b4 hv4 ho4 ht4 k4 hg4 X3 B3 HI
  rw [show ∀ x y : Value, #[x] ++ placeN 14 ++ #[y] = #[x, y] from fun _ _ => rfl]
  go_wp2_with fail
  have X4 := below2 w4 (.cells #[.int .i64 5, .int .i64 0, .string ⟨#[]⟩, .slice la 0 lc, .slice (some ⟨g4, o4, none⟩) 1 dc] 25) (.cells #[.int .i64 0, .int .i64 0] 36)
  have r5 := heap_alloc2_old w4 (.cells #[.int .i64 5, .int .i64 0, .string ⟨#[]⟩, .slice la 0 lc, .slice (some ⟨g4, o4, none⟩) 1 dc] 25) (.cells #[.int .i64 0, .int .i64 0] 36)
  have r6 := heap_alloc2_new w4 (.cells #[.int .i64 5, .int .i64 0, .string ⟨#[]⟩, .slice la 0 lc, .slice (some ⟨g4, o4, none⟩) 1 dc] 25) (.cells #[.int .i64 0, .int .i64 0] 36)
  have hUs : ((w4.alloc (.cells #[.int .i64 5, .int .i64 0, .string ⟨#[]⟩, .slice la 0 lc, .slice (some ⟨g4, o4, none⟩) 1 dc] 25)).alloc (.cells #[.int .i64 0, .int .i64 0] 36)).heap.size = w4.heap.size + 1 + 1 := by simp
  generalize (w4.alloc (.cells #[.int .i64 5, .int .i64 0, .string ⟨#[]⟩, .slice la 0 lc, .slice (some ⟨g4, o4, none⟩) 1 dc] 25)).alloc (.cells #[.int .i64 0, .int .i64 0] 36) = U at X4 r5 r6 hUs ⊢
  have BU := Lib.hid (below_then B4.out X4)
  have X5 := Lib.hid (below1 U (.cells (btV exC).toArray 5))
  have K3 := Dec_any (some ⟨w4.heap.size + 1 + 1, 0, none⟩) 8 exC 40 (reads_all 40).1 (U.alloc (.cells (btV exC).toArray 5)) (by rw [← hUs]; exact row_inB (heap_alloc_new U _)) (by decide) (by decide) (by intro b hb; simp [exC] at hb; omega) (fun b o e _ => by injection e with e; injection e with e1; subst e1; simp; omega) ((HE.out.then_ BU.out).then_ X5.out) (Nat.le_trans hB (Nat.le_trans BU.out.size X5.out.size)) (by decide)
  rw [ex_dec3] at K3
  clear hUs
  refine K3.mono ?_
  rintro e w5 ⟨b5, rfl⟩
  rw [show ∀ x y : Value, #[x] ++ placeN 0 ++ #[y] = #[x, y] from fun _ _ => rfl]
  have X6 := below_then X5.out b5
  have q1 := row_cells (row_then (row_then r5 X6) (below2 w5 (.cells #[.int .i64 0, .int .i64 0, .string ⟨#[]⟩, .slice none 0 0, .slice none 0 0] 25) (.cells #[.int .i64 22, .int .i64 4] 36)))
  have q2 := row_cells (row_then (row_then r6 X6) (below2 w5 (.cells #[.int .i64 0, .int .i64 0, .string ⟨#[]⟩, .slice none 0 0, .slice none 0 0] 25) (.cells #[.int .i64 22, .int .i64 4] 36)))
  have b6 := below_then (below_then X4 X6) (below2 w5 (.cells #[.int .i64 0, .int .i64 0, .string ⟨#[]⟩, .slice none 0 0, .slice none 0 0] 25) (.cells #[.int .i64 22, .int .i64 4] 36))
  have q3 := (b6.cell (cell_lt K4.out.1)).trans K4.out.1
  have hib := HI4.out.then_ b6
  have q4 : ((w5.alloc (.cells #[.int .i64 0, .int .i64 0, .string ⟨#[]⟩, .slice none 0 0, .slice none 0 0] 25)).alloc (.cells #[.int .i64 22, .int .i64 4] 36)).cell? ⟨g3, 4, none⟩ = some (.int .u8 18) := by
    obtain ⟨b, o, e, hc⟩ := hib 4 18 rfl
    injection e with e
    injection e with e1 e2
    subst e1 e2
    exact hc
  have q5 : ((w5.alloc (.cells #[.int .i64 0, .int .i64 0, .string ⟨#[]⟩, .slice none 0 0, .slice none 0 0] 25)).alloc (.cells #[.int .i64 22, .int .i64 4] 36)).cell? ⟨g3, 7, none⟩ = some (.int .u8 1) := by
    obtain ⟨b, o, e, hc⟩ := hib 7 1 rfl
    injection e with e
    injection e with e1 e2
    subst e1 e2
    exact hc
  have hn : nameB.toList = [98] := by rw [Lib.toList_data]; rfl
  have BB := Lib.hid (below_then BU.out X6)
  clear K3 b5 X6 b6 hib r5 r6 X4
  go_wp2_with fail
  go_ret
  exact ⟨rfl, below_then BB.out (below2 _ _ _)⟩
end Go.Proofs.YtjfgmcmnpekahaaDoor
