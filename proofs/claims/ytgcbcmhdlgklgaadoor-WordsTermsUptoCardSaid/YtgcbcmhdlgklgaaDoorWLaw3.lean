/- The law WordsTerms over the contracts. Over XYT, with Lent and Kept. No statement is proved here. -/
import Derived.Test.YtgcbcmhdlgklgaaDoorWTerms
import Derived.Test.YtgcbcmhdlgklgaaDoorKept
import Derived.Test.YtgcbcmhdlgklgaaDoorLent
namespace Go.Proofs.YtgcbcmhdlgklgaaDoor
open Go.RowKit Go.Lib
set_option maxRecDepth 100000

/-- The program's calls answer so, in every world that has grown out of W. -/
structure P9t (W : World) : Prop where
  tabs : TabsW W
  awake : ∀ w : World, Below W.heap.size W w → Calls Tryd.prog 5 #[] w fun e w' => e = .returned (.bool true) ∧ Below w.heap.size w w'
  terms : ∀ (x : T) (w : World), Below W.heap.size W w → x.ok → x.In w → (allW x.val).length ≤ 1000000000000 → Calls Tryd.prog 10 #[x.arg] w (TermsTo w (termsF (allW x.val) []))
  score : ∀ (x : T) (s : ByteArray) (w : World), Below W.heap.size W w → x.ok → x.In w → s.size ≤ 140737488351232 → (allW x.val).length ≤ 1000000000000 → Calls Tryd.prog 11 #[x.arg, .string s] w fun e w' => e = .returned (.int .i64 (scoreW (allW x.val) (splitL (bsI s)) : Nat)) ∧ Below w.heap.size w w'
theorem In.apartT {w w' : World} {t x : T} {B : Nat} (h : t.In w) (hm : x.Marked w' B) (hB : w.heap.size ≤ B) : ∀ p ∈ t.places, p.1.block ∉ blocksOf x.mrows := fun p hp hc => by
  have h1 := cell_lt (h p hp)
  have h2 := (owns_lt hm.owns _ hc).1
  omega
theorem OwnT.only {w w' : World} {B : Nat} {v : Value} {L : List Tm} {S : List Nat} (h : OwnT w B v L) (ho : Only S w w') (hn : ∀ b ∈ S, v.ownBlock ≠ some b) : OwnT w' B v L := by
  have h0 := h
  obtain ⟨h1, h2⟩ := h
  refine ⟨h1, ?_⟩
  rcases h2 with h2 | ⟨g, cap, cur, hv, hB, hg, hrest⟩
  · exact .inl h2
  · refine .inr ⟨g, cap, cur, hv, hB, ?_, hrest⟩
    rw [ho.block g (lt_of_block hg) (fun hm => hn g hm (by rw [hv]; rfl))]
    exact hg
theorem termsF_len {l : List (List Int)} (h : ∀ x ∈ l, isB x) : (listT (termsF l [])).length ≤ 200 := by
  have key : ∀ (r l : List (List Int)) (L : List Tm), Counted l L → (∀ x ∈ l, isB x) → (∀ x ∈ r, isB x) → (listT (termsF r L)).length ≤ 200 := by
    intro r
    induction r with
    | nil => intro l L h _ _; exact h.few
    | cons x r ih =>
      intro l L h hl hr
      rw [termsF]
      cases e : addW L x with
      | none => simp [listT]
      | some M => exact ih (l ++ [x]) M (h.add hl (hr x (by simp)) e) (fun y hy => (List.mem_append.1 hy).elim (hl y) (fun h => by rw [List.mem_singleton.1 h]; exact hr x (by simp))) (fun y hy => hr y (by simp [hy]))
  exact key l [] [] Counted.nil (by simp) h
set_option maxHeartbeats 8000000 in
theorem wterms_law {w : World} (P : P9t w) (t : T) (s : ByteArray) (ok : t.ok) (hin : t.In w) (hs : s.size ≤ 140737488351232) (hm : (allW t.val).length ≤ 1000000000000) :
    Calls Tryd.prog 4 #[t.arg, .string s] w fun e w' => e = .returned (.bool true) ∧ Below w.heap.size w w' := by
  have HP := Lib.hid P
  have LT := Lib.hid (lent_any t ok)
  have KT := Lib.hid (fun x : T => kept_any x t)
  have RT := Lib.hid (fun W h1 h2 => rterms_any t ok W h1 h2 hm)
  have RS := Lib.hid (fun W h1 h2 => rscore_any t ok s hs W h1 h2 hm)
  have HA := Lib.hid hin
  have OA := Lib.hid ok
  have HM := Lib.hid (And.intro hm hs)
  have hlen := termsF_len (l := allW t.val) (fun x hx => word_isB (allW_are _ x hx))
  obtain ⟨k, n, q, la, lc, l, da, dc, d⟩ := t
  show Calls _ _ #[.agg #[.int .i64 k, .int .i64 n, .string q, .slice la l.length lc, .slice da d.length dc], .string s] _ _
  have b0 := below1 w (.cells #[.int .i64 k, .int .i64 n, .string q, .slice la l.length lc, .slice da d.length dc] 30)
  have r0 := heap_alloc_new w (.cells #[.int .i64 k, .int .i64 n, .string q, .slice la l.length lc, .slice da d.length dc] 30)
  have H0 := Lib.hid (And.intro b0 r0)
  clear ok hin P b0 r0
  go_enter Tryd.func4, Tryd.ntmps4
  go_wp2_with fail
  refine (HP.out.awake _ H0.out.1).mono ?_
  rintro e w1 ⟨rfl, b1⟩
  have r1 := row_then H0.out.2 b1
  have fa := row_cells r1
  have H1 := Lib.hid (And.intro (below_then H0.out.1 b1) r1)
  have hz1 := lt_of_block r1
  clear b1 r1 H0
  go_wp2_with fail
  refine (LT.out w1 (HA.out.then_ H1.out.1)).mono ?_
  rintro e w2 ⟨x, rfl, vx, mx, b2⟩
  obtain ⟨kx, nx, tx, lax, lcx, lx, dax, dcx, dx⟩ := x
  dsimp only [T.arg, T.cells]
  have VX := Lib.hid vx
  have z2 := b2.size
  have OX := Lib.hid mx.ok
  have SX := Lib.hid (fun b hb => owns_lt mx.owns b hb)
  have X2 := below1 w2 (.cells #[.int .i64 kx, .int .i64 nx, .string tx, .slice lax lx.length lcx, .slice dax dx.length dcx] 30)
  have bx := heap_alloc_new w2 (.cells #[.int .i64 kx, .int .i64 nx, .string tx, .slice lax lx.length lcx, .slice dax dx.length dcx] 30)
  have MX := Lib.hid (And.intro (mx.below X2) (And.intro bx (And.intro (row_then H1.out.2 (below_then b2 X2)) (below_then H1.out.1 (below_then b2 X2)))))
  clear fa vx mx b2 X2 bx
  go_wp2_with fail
  have K3 := HP.out.terms (.mk kx nx tx lax lcx lx dax dcx dx) _ MX.out.2.2.2 OX.out MX.out.1.in_ (by rw [VX.out]; exact HM.out.1)
  rw [VX.out] at K3
  refine K3.mono ?_
  clear K3
  intro e w3 h3
  obtain ⟨a3, c3, rfl, ho3, b3⟩ := h3.both
  clear h3
  rw [World.size_alloc] at ho3
  have z3 := b3.size
  rw [World.size_alloc] at z3
  have M3 := Lib.hid (And.intro (MX.out.1.below b3) (And.intro (row_then MX.out.2.1 b3) (And.intro (row_then MX.out.2.2.1 b3) (below_then MX.out.2.2.2 b3))))
  have A3 := Lib.hid ho3
  have fx := row_cells M3.out.2.1
  clear MX ho3 b3
  go_wp2_with fail
  have K4 := HP.out.score (.mk kx nx tx lax lcx lx dax dcx dx) s w3 M3.out.2.2.2 OX.out M3.out.1.in_ HM.out.2 (by rw [VX.out]; exact HM.out.1)
  rw [VX.out] at K4
  refine K4.mono ?_
  clear K4
  rintro e w4 ⟨rfl, b4⟩
  have z4 := b4.size
  have A4 := Lib.hid (A3.out.then_ b4)
  have M4 := Lib.hid (And.intro (M3.out.1.below b4) (And.intro (row_then M3.out.2.1 b4) (And.intro (row_then M3.out.2.2.1 b4) (below_then M3.out.2.2.2 b4))))
  clear fx M3 A3 b4
  have fx := row_cells M4.out.2.1
  have fa := row_cells M4.out.2.2.1
  go_wp2_with fail
  refine (KT.out (.mk kx nx tx lax lcx lx dax dcx dx) _ w4 M4.out.1 OA.out (HA.out.then_ M4.out.2.2.2) (In.apartT HA.out M4.out.1 (by omega)) VX.out).mono ?_
  rintro e w5 ⟨rfl, o5⟩
  have z5 := o5.size
  have hrange := fun b (hb : b ∈ blocksOf (T.mrows (.mk kx nx tx lax lcx lx dax dcx dx))) => SX.out b hb
  have A5 := Lib.hid (A4.out.only o5 (fun b hb hc => by have := hrange b hb; have := (A4.out.block b hc).1; omega))
  have R5 := keep_row o5 M4.out.2.2.1 (fun hb => by have := hrange _ hb; omega)
  have BW5 := Lib.hid (((Only.of_below (S := []) M4.out.2.2.2).then_ o5 (fun b hb => .inr (by have := hrange b hb; omega))).below)
  clear fx fa A4 M4 hrange o5
  have fa := row_cells R5
  go_wp2_with fail
  refine (RT.out w5 (HA.out.then_ BW5.out) (HP.out.tabs.then_ BW5.out)).mono ?_
  intro e w6 h6
  obtain ⟨a6, c6, rfl, ho6, b6⟩ := h6.both
  clear h6
  have z6 := b6.size
  have A6 := Lib.hid (And.intro (A5.out.then_ b6) ho6)
  have BW6 := Lib.hid (below_then BW5.out b6)
  have R6 := row_then R5 b6
  clear fa R5 BW5 b6 ho6 A5
  have fa := row_cells R6
  obtain ⟨L, hL⟩ : ∃ L, listT (termsF (allW (T.val (.mk k n q la lc l da dc d))) []) = L := ⟨_, rfl⟩
  rw [hL] at A6 hlen ⊢
  obtain ⟨cc, hcc⟩ : ∃ cc, codeT (termsF (allW (T.val (.mk k n q la lc l da dc d))) []) = cc := ⟨_, rfl⟩
  rw [hcc]
  obtain ⟨nL, hnL⟩ : ∃ nL, L.length = nL := ⟨_, rfl⟩
  rw [hnL] at A6 hlen ⊢
  have HN := Lib.hid hnL
  clear hL hcc hnL
  go_wp2_with (first
    | (go_at_call 14; refine (RS.out w6 (HA.out.then_ BW6.out) (HP.out.tabs.then_ BW6.out)).mono ?_; rintro e w7 ⟨rfl, b7⟩; have B7 := Lib.hid b7; clear b7))
  go_loopw [13] (fun i wr => ∃ j : Nat, j ≤ nL ∧ i = .int .i64 j ∧ Hid (Below w7.heap.size w7 wr)) (fun i _ => nL - (intOf i).toNat)
  case atStart => exact ⟨0, by omega, rfl, Lib.hid (Below.refl _ _)⟩
  case round =>
    obtain ⟨j, hj, rfl, HB⟩ := hrel
    by_cases hlt : j < nL
    · obtain ⟨p, hp⟩ : ∃ p, L[j]? = some p := ⟨_, List.getElem?_eq_getElem (by rw [HN.out]; exact hlt)⟩
      obtain ⟨g1, rfl, x0, x1, -⟩ := OwnT.at_ ((A6.out.1.then_ B7.out).then_ HB.out) hp
      obtain ⟨g2, rfl, y0, y1, -⟩ := OwnT.at_ ((A6.out.2.then_ B7.out).then_ HB.out) hp
      have hsame : ((strOfNums p.1).toList == (strOfNums p.1).toList) = true := by simp
      have j0 : (0 : Int) ≤ (j : Int) := by omega
      have j1 : (j : Int) < (nL : Int) := by omega
      clear hp
      go_wp2_with fail
      go_quiet (fail)
      go_wp2_with fail
      go_roundw
      case rel => exact ⟨j + 1, by omega, by go_num, Lib.hid ⟨HB.out.os, HB.out.tape, HB.out.output, HB.out.size, HB.out.block⟩⟩
      case measure => simp [intOf]; omega
    · go_wp2_with fail
      go_ret
      exact ⟨ret_bool (by simp), below_then (below_then BW6.out B7.out) HB.out⟩

end Go.Proofs.YtgcbcmhdlgklgaaDoor
