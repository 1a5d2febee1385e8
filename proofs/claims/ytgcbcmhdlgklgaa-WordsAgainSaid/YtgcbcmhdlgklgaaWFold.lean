/- The program's fold. No statement is proved here. -/
import Derived.Test.YtgcbcmhdlgklgaaWRows
import Derived.Test.YtgcbcmhdlgklgaaWLet
import Derived.Test.YtgcbcmhdlgklgaaWAp
import Derived.Test.YtgcbcmhdlgklgaaClone
import Derived.Lib.OthersKept
namespace Go.Proofs.Ytgcbcmhdlgklgaa
open Go.RowKit Go.Lib
set_option maxRecDepth 100000

theorem OwnB.iterAt {w : World} {B : Nat} {v : Value} {l : List Int} (h : OwnB w B v l) {k p : Nat} {s : ByteArray} (hk : w.heap[k]? = some (.stringIter s p)) (q : Nat) : OwnB (w.iterAt k s q) B v l :=
  h.keep fun g hg => Lib.iterAt_other _ _ _ _ _ (fun e => by
    subst e
    rcases h.2 with ⟨hv, _⟩ | ⟨g, cap, cur, hv, hb, hc, _⟩
    · rw [hv] at hg; cases hg
    · rw [hv] at hg
      injection hg with hg
      subst hg
      rw [hk] at hc
      cases hc)
structure FoldR (s : ByteArray) (w wr : World) (pos : Nat) (v : Value) : Prop where
  le : pos ≤ s.size
  lets : ∀ r ∈ runesL ((bsI s).drop pos), letterZ r = true
  ex : ∃ acc, OwnB wr w.heap.size v acc ∧ acc ++ ((runesL ((bsI s).drop pos)).flatMap fun r => encodeRuneZ (foldZ r)) = foldB (bsI s) ∧ acc.length ≤ 4 * pos
  iter : wr.heap[w.heap.size + 1]? = some (.stringIter s pos)
  below : Below w.heap.size w wr
theorem OwnB.noIter {w : World} {B : Nat} {v : Value} {l : List Int} (h : OwnB w B v l) {k p : Nat} {s : ByteArray} (hk : w.heap[k]? = some (.stringIter s p)) : v.ownBlock ≠ some k := fun hg => by
  rcases h.2 with ⟨hv, _⟩ | ⟨g, cap, cur, hv, hb, hc, _⟩
  · rw [hv] at hg; cases hg
  · rw [hv] at hg
    injection hg with hg
    subst hg
    rw [hk] at hc
    cases hc
set_option maxHeartbeats 4000000 in
theorem fold_any (s : ByteArray) (h1 : 1 ≤ s.size) (h2 : s.size ≤ 1000) (hlet : ∀ r ∈ runesL (bsI s), letterZ r = true) (w : World) :
    Calls Try.prog 20 #[.string s] w fun e w' => e = .returned (.string (strOfNums (foldB (bsI s)))) ∧ Below w.heap.size w w' := by
  obtain ⟨cur, hcur, hmk⟩ := make_any (P := Try.prog) 59 5 _ 1 1 Try.underlying59 info_byte 0 s.size (by omega) (by omega) (by omega)
  replace hmk : ∀ w : World, (Instr.makeSlice 59 (.int .i64 0) (.int .i64 s.size)).run Try.prog w = .ok (.slice (some ⟨w.heap.size, 0, none⟩) 0 s.size) (w.alloc (.cells cur 5)) := fun w => by have := hmk w; simpa using this
  have HC := Lib.hid (World.ownsRow_made (base := w.heap.size) (size := 1) (e := 5) w cur s.size (Nat.le_refl _) (by unfold maxLen; omega) (by omega))
  have HL := Lib.hid hlet
  have hl := bsI_len s
  have b1 := (Below.refl w.heap.size w).alloc (Nat.le_refl _) (.cells cur 5)
  have hz1 : (w.alloc (.cells cur 5)).heap.size = w.heap.size + 1 := by simp
  have HI := Lib.hid (World.iter_heap (w.alloc (.cells cur 5)) s 0)
  have HB := Lib.hid b1
  clear hlet hcur b1
  go_enter Try.func20, Try.ntmps20
  go_wp2_with fail
  go_loopw [3] (fun v wr => ∃ pos u, v = u ∧ Hid (FoldR s w wr pos u)) (fun _ wr => s.size - wr.iterPos (w.heap.size + 1))
  case atStart =>
    refine ⟨0, _, rfl, by omega, HL.out, ⟨[], ?_, ?_, by simp⟩, ?_, ?_⟩
    · exact (show OwnB (w.alloc (.cells cur 5)) w.heap.size _ [] from HC.out).alloc _
    · rw [List.nil_append, List.drop_zero]; rfl
    · have := HI.out; rw [hz1] at this; exact this
    · exact HB.out.alloc (by simp) _
  case round =>
    obtain ⟨pos, v, hv, HR⟩ := hrel
    have hv := hv.symm
    subst hv
    have hit := HR.out.iter
    have hsz : w.heap.size + 1 < wr.heap.size := (Array.getElem?_eq_some_iff.1 hit).1
    by_cases hp : pos < s.size
    · obtain ⟨r, m, hdec⟩ : ∃ r m, decL ((bsI s).drop pos) = (r, m) := ⟨_, _, rfl⟩
      have hdu : Utf8.decode s pos = (r, m) := by rw [decL_at]; exact hdec
      have hm1 : 1 ≤ m := by have := decL_pos ((bsI s).drop pos); rw [hdec] at this; exact this
      have hm2 : pos + m ≤ s.size := by have := decL_le ((bsI s).drop pos) (by rw [List.length_drop]; omega); rw [hdec, List.length_drop] at this; simp only at this; omega
      have hst := runesL_step ((bsI s).drop pos) (by rw [List.length_drop]; omega)
      rw [hdec] at hst
      simp only [List.drop_drop] at hst
      have hlr : letterZ (r : Int) = true := HR.out.lets _ (by rw [hst]; exact List.mem_cons_self ..)
      have hrng := letter_rng hlr
      have hn215 : (r : Int) ≠ 215 := by
        have := (letter_iff (r : Int)).1 hlr
        omega
      have hfr := letter_rng (fold_letter hlr).1
      obtain ⟨acc, hO, hacc, hal⟩ := HR.out.ex
      obtain ⟨q, hq⟩ : ∃ q, foldZ (r : Int) = q := ⟨_, rfl⟩
      rw [hq] at hfr
      have hq4 := encodeRuneZ_length q
      have hst2 := Lib.hid hst
      have hnx : ∀ ty, (Instr.next (.pointer (some ⟨w.heap.size + 1, 0, none⟩)) true ty).run Try.prog wr = _ := fun ty => Lib.run_next_any_at wr (w.heap.size + 1) s pos ty hit hp
      rw [hdu] at hnx
      obtain ⟨A, hA⟩ : ∃ A, wr.iterAt (w.heap.size + 1) s (pos + m) = A := ⟨_, rfl⟩
      have hitA : A.heap[w.heap.size + 1]? = some (.stringIter s (pos + m)) := by rw [← hA]; exact Lib.iterAt_heap wr (w.heap.size + 1) s pos (pos + m) hit
      have hOA : OwnB A w.heap.size v acc := by rw [← hA]; exact hO.iterAt hit _
      have hbA : Below w.heap.size w A := by rw [← hA]; exact Lib.below_iterAt HR.out.below (by omega) _ _
      simp only [hA] at hnx
      have hF := Lib.hid (folded_any (r : Int) (by omega) (by omega) hn215 A)
      rw [hq] at hF
      have hP := Lib.hid (apRune_any w.heap.size v acc q (by omega) (by omega) A hOA (by omega) hbA.size)
      have hH := Lib.hid (And.intro hacc (And.intro hal (And.intro hitA (And.intro hbA hOA))))
      have hA' := Lib.hid hA
      have hqq := Lib.hid hq
      clear hst hdec hdu hlr hrng hn215 hO hacc hal hOA hbA hA hq hitA
      go_wp2_with (first
        | (go_at_call 29; refine hF.out.mono ?_; rintro e w1 ⟨rfl, rfl⟩)
        | (go_at_call 28; refine hP.out.mono ?_; rintro e w2 ⟨v', rfl, o2, ob, g2⟩))
      have hw := hH.out.2.2.2.1
      have hlt : w.heap.size + 1 < w1.heap.size := (Array.getElem?_eq_some_iff.1 hH.out.2.2.1).1
      have hno := hH.out.2.2.2.2.noIter hH.out.2.2.1
      have hit2 : w2.heap[w.heap.size + 1]? = some (.stringIter s (pos + m)) := by
        rw [g2.block _ (by simp; omega) (Ne.symm hno), Below.heap_alloc _ _ _ hlt]
        exact hH.out.2.2.1
      have hb2 : Below w.heap.size w w2 := (hw.alloc hw.size ob).grown g2 (by simp; omega) (fun k e => (hH.out.2.2.2.2.block k e).1)
      have pos2 : w2.iterPos (w.heap.size + 1) = pos + m := by simp [World.iterPos, hit2]
      have hE := Lib.hid (And.intro hit2 (And.intro hb2 o2))
      clear hit2 hb2 o2 g2 hno hlt hw
      go_roundw
      case rel =>
        refine ⟨pos + m, _, rfl, hm2, fun x hx => HR.out.lets x (by rw [hst2.out]; exact List.mem_cons_of_mem _ hx), ⟨acc ++ encodeRuneZ q, hE.out.2.2, ?_, ?_⟩, hE.out.1, hE.out.2.1⟩
        · have h1 := hH.out.1
          rw [hst2.out, List.flatMap_cons, hqq.out] at h1
          rw [List.append_assoc]
          exact h1
        · rw [List.length_append]
          have := hH.out.2.1
          omega
      case measure => rw [pos2]; simp [World.iterPos, hit]; omega
    · have hnx : ∀ ty, (Instr.next (.pointer (some ⟨w.heap.size + 1, 0, none⟩)) true ty).run Try.prog wr = _ := fun ty => Lib.run_next_end_at wr (w.heap.size + 1) s pos ty hit hp
      have hdn : (bsI s).drop pos = [] := List.drop_eq_nil_of_le (by have := HR.out.le; omega)
      obtain ⟨acc, hO, hacc, hal⟩ := HR.out.ex
      rw [hdn, runesL_nil, List.flatMap_nil, List.append_nil] at hacc
      subst hacc
      obtain ⟨a, c, rfl, ha, h0, -, -⟩ := hO.shape
      have hcv := run_str wr a _ c (foldB (bsI s)) rfl ha (fun h => (h0 h).2)
      have hE := Lib.hid HR.out.below
      clear hdn hal hO ha h0
      go_wp2_with fail
      go_ret
      exact ⟨rfl, hE.out⟩
end Go.Proofs.Ytgcbcmhdlgklgaa
