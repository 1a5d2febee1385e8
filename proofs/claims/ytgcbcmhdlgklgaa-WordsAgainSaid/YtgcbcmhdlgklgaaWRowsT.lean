/- The program's rows: what its iterator tells. No statement is proved here. -/
import Derived.Test.YtgcbcmhdlgklgaaIter
import Derived.Test.YtgcbcmhdlgklgaaWRows
import Derived.Test.YtgcbcmhdlgklgaaWLet
import Derived.Lib.OthersKept
namespace Go.Proofs.Ytgcbcmhdlgklgaa
open Go.RowKit Go.Lib
set_option maxRecDepth 100000
attribute [local go_sem] Oper.semAt_some

theorem row_cell {w : World} {b : Nat} {v : Value} {t : TypeId} (h : w.heap[b]? = some (.cells #[v] t (0, 0))) : w.cell? ⟨b, 0, none⟩ = some v ∧ w.frozen? ⟨b, 0, none⟩ = false := by
  unfold World.cell? World.frozen?
  simp [h]
theorem yield_round {m m' l : Nat} {P : Program} {fn : FuncId} {tmps : Array Value} {assign body : Code} {W : World} {R : Ending → World → Prop} (h : RoundIn Fence.wide m P l fn tmps assign body W R) : RoundIn Fence.wide m' P l fn tmps assign body W R := ⟨h.1, fun c cs _ => h.2 c cs (room_wide _)⟩
theorem rows_any (s : ByteArray) (w : World) : Calls Try.prog 19 #[.string s] w fun e w' => e = .returned (.func (.func 26) #[] #[.pointer (some ⟨w.heap.size, 0, none⟩)]) ∧ w' = w.alloc (.cells #[.string s] 9) := by
  go_enter Try.func19, Try.ntmps19
  go_wp2_with fail
  go_ret
  exact ⟨rfl, rfl⟩
theorem itr_iterAt {n : Nat} {Th : World → Nat → Prop} {W : World} {k : Nat} (s : ByteArray) (p : Nat) (hn : n ≤ k) (ht : ¬ Th W k) : Itr n Th W (W.iterAt k s p) :=
  ⟨rfl, rfl, rfl, by rw [Lib.iterAt_size]; exact Nat.le_refl _, fun j _ h => Lib.iterAt_other _ _ _ _ _ (fun e => by subst e; exact h.elim (fun h => by omega) ht)⟩
/-- Between two rounds of the loop over the text. -/
structure RowsR (s : ByteArray) (sb : Nat) (w W : World) (Th : World → Nat → Prop) (J : List (List Int) → World → Prop) (p : Nat) (f : Int) (c : List Int) (pre : List (List Int)) (wr : World) : Prop where
  le : p ≤ s.size
  at_ : (f = -1 ∧ c = []) ∨ ∃ i : Nat, f = (i : Int) ∧ i < p ∧ c = cutB (bsI s) i p
  iter : wr.heap[W.heap.size]? = some (.stringIter s p)
  told : pre ++ rowsS ((bsI s).drop p) c = rowsS (bsI s) []
  j : J pre wr
  far : Sofar (fun k => k = sb) w Th W wr
  mine : ¬ Th wr W.heap.size
set_option maxHeartbeats 4000000 in
theorem rows_tell (s : ByteArray) (hs : s.size ≤ 562949953421312) (sb : Nat) (w : World) (hb : w.heap[sb]? = some (.cells #[.string s] 9 (0, 0))) :
    SeqT Try.prog (fun k => k = sb) 26 #[.pointer (some ⟨sb, 0, none⟩)] (fun c : List Int => #[.string (strOfNums c)]) (rowsS (bsI s) []) w := by
  refine SeqT.of ?_
  intro l Th J Jx W T
  have hsb : sb < w.heap.size := (Array.getElem?_eq_some_iff.1 hb).1
  have cellS : Hid (∀ wr : World, Sofar (fun k => k = sb) w Th W wr → wr.cell? ⟨sb, 0, none⟩ = some (.string s) ∧ wr.frozen? ⟨sb, 0, none⟩ = false) := fun wr h => row_cell ((h.kept sb rfl hsb).trans hb)
  have hl := bsI_len s
  show Calls _ _ #[.func (.yield l) #[] #[], .pointer (some ⟨sb, 0, none⟩)] _ _
  refine (callsIn_wide (n := 5)).1 ?_
  refine callsIn_of_wp Try.func26 rfl trivial ?_ rfl
  simp only [Try.ntmps26, List.size_toArray, List.length_cons, List.length_nil, Nat.reduceAdd, Nat.reduceSub, Array.replicate_succ, Array.replicate_zero, List.push_toArray, List.append_toArray, List.nil_append, List.cons_append]
  have cs0 := cellS.out W T.sofar
  have HT := Lib.hid T
  have HZ := Lib.hid hs
  clear T hb hsb
  gi_wp2
  gi_loopw [3] (fun p wr => ∃ (pos : Nat) (f : Int) (c : List Int) (pre : List (List Int)), p = .int .i64 f ∧ Hid (RowsR s sb w W Th J pos f c pre wr)) (fun _ wr => s.size - wr.iterPos W.heap.size)
  case atStart =>
    have T := HT.out
    have i0 : Itr W.heap.size Th W (W.iter s 0) := .of_below ((Below.refl _ W).alloc (Nat.le_refl _) _)
    obtain ⟨h1, h2, h3⟩ := T.own T.sofar T.start i0
    exact ⟨0, -1, [], [], rfl, by omega, .inl ⟨rfl, rfl⟩, World.iter_heap W s 0, by simp, h2, h1, h3 _ (T.fresh T.start (Nat.le_refl _))⟩
  case round =>
    obtain ⟨pos, f, c, pre, rfl, HR⟩ := hrel
    have hit := HR.out.iter
    have hsz : W.heap.size < wr.heap.size := (Array.getElem?_eq_some_iff.1 hit).1
    by_cases hp : pos < s.size
    · obtain ⟨r, m, hdec⟩ : ∃ r m, decL ((bsI s).drop pos) = (r, m) := ⟨_, _, rfl⟩
      have hdu : Utf8.decode s pos = (r, m) := by rw [decL_at]; exact hdec
      have hm1 : 1 ≤ m := by have := decL_pos ((bsI s).drop pos); rw [hdec] at this; exact this
      have hm2 : pos + m ≤ s.size := by have := decL_le ((bsI s).drop pos) (by rw [List.length_drop]; omega); rw [hdec, List.length_drop] at this; simp only at this; omega
      have hr1 : r ≤ 1114111 := by have := decL_rune ((bsI s).drop pos); rw [hdec] at this; exact this
      have hnx : ∀ ty, (Instr.next (.pointer (some ⟨W.heap.size, 0, none⟩)) true ty).run Try.prog wr = _ := fun ty => Lib.run_next_any_at wr W.heap.size s pos ty hit hp
      rw [hdu] at hnx
      obtain ⟨A, hA⟩ : ∃ A, wr.iterAt W.heap.size s (pos + m) = A := ⟨_, rfl⟩
      have hitA : A.heap[W.heap.size]? = some (.stringIter s (pos + m)) := by rw [← hA]; exact Lib.iterAt_heap wr W.heap.size s pos (pos + m) hit
      obtain ⟨fA, jA, mA⟩ := HT.out.own HR.out.far HR.out.j (B := A) (by rw [← hA]; exact itr_iterAt s (pos + m) (Nat.le_refl _) HR.out.mine)
      have mA := mA _ HR.out.mine
      have hA' := Lib.hid hA
      simp only [hA] at hnx
      have csA := cellS.out A fA
      have posA : A.iterPos W.heap.size = pos + m := by simp [World.iterPos, hitA]
      have hst := rowsS_step ((bsI s).drop pos) c (by rw [List.length_drop]; omega)
      rw [hdec] at hst
      simp only [List.drop_drop] at hst
      have hMem := Lib.hid hst
      clear hst
      have arm : Calls Try.prog 27 #[.int .i32 (r : Int)] A fun e w' => e = .returned (.bool (letterZ (r : Int))) ∧ w' = A := isLetter_any (r : Int) (by omega) (by omega) A
      have arm := Lib.hid arm
      have hfL : Fence.wide.fn 27 := trivial
      cases hz : letterZ (r : Int) with
      | true =>
        rw [hz] at arm
        have hst := hMem.out
        rw [hz, if_pos rfl] at hst
        have hst := Lib.hid hst
        clear hMem
        rcases HR.out.at_ with ⟨rfl, rfl⟩ | ⟨i, rfl, hip, hc⟩
        · gi_wp2_with (gi_at_call 27; refine (callsIn_wide.2 arm.out).mono ?_; rintro e w1 ⟨rfl, rfl⟩)
          go_roundw
          case rel => exact ⟨pos + m, pos, ((bsI s).drop pos).take m, pre, rfl, hm2, .inr ⟨pos, rfl, by omega, by unfold cutB; congr 1; omega⟩, hitA, by rw [← HR.out.told, hst.out]; rfl, jA, fA, mA⟩
          case measure => rw [posA]; simp [World.iterPos, hit]; omega
        · gi_wp2_with (gi_at_call 27; refine (callsIn_wide.2 arm.out).mono ?_; rintro e w1 ⟨rfl, rfl⟩)
          go_roundw
          case rel => exact ⟨pos + m, i, c ++ ((bsI s).drop pos).take m, pre, rfl, hm2, .inr ⟨i, rfl, by omega, by rw [hc, cut_more _ (by omega)]⟩, hitA, by rw [← HR.out.told, hst.out], jA, fA, mA⟩
          case measure => rw [posA]; simp [World.iterPos, hit]; omega
      | false =>
        rw [hz] at arm
        have hst := hMem.out
        rw [hz, if_neg (by simp)] at hst
        have hst := Lib.hid hst
        clear hMem
        rcases HR.out.at_ with ⟨rfl, rfl⟩ | ⟨i, rfl, hip, hc⟩
        · gi_wp2_with (gi_at_call 27; refine (callsIn_wide.2 arm.out).mono ?_; rintro e w1 ⟨rfl, rfl⟩)
          go_roundw
          case rel => exact ⟨pos + m, -1, [], pre, rfl, hm2, .inl ⟨rfl, rfl⟩, hitA, by rw [← HR.out.told, hst.out]; rfl, jA, fA, mA⟩
          case measure => rw [posA]; simp [World.iterPos, hit]; omega
        · have hcl : c.length = pos - i := by rw [hc]; exact cut_len _ (by omega)
          have hfin : finR c = [c] := by unfold finR; rw [if_neg (by omega)]
          have htold : pre ++ [c] ++ rowsS ((bsI s).drop (pos + m)) [] = rowsS (bsI s) [] := by rw [← HR.out.told, hst.out, hfin, List.append_assoc]
          obtain ⟨fn, tmps, assign, body, hy, hRd⟩ := HT.out.yields pre c A jA ⟨_, htold⟩
          have hTold := Lib.hid htold
          clear htold
          rw [hc, ← extract_cut] at hy
          have hRd := Lib.hid (fun m : Nat => yield_round (m' := m) hRd)
          gi_wp2_with (gi_at_call 27; refine (callsIn_wide.2 arm.out).mono ?_; rintro e w1 ⟨rfl, rfl⟩)
          refine (hRd.out _).mono ?_
          rintro e B ⟨rB, (⟨rfl, jB⟩ | ⟨rfl, jxB⟩)⟩
          · obtain ⟨fB, kB⟩ := HT.out.round fA jA rB
            obtain ⟨mB, eB⟩ := kB _ (Array.getElem?_eq_some_iff.1 hitA).1 mA
            have itB := eB.trans hitA
            have posB : B.iterPos W.heap.size = pos + m := by simp [World.iterPos, itB]
            have hF := Lib.hid (And.intro fB (And.intro mB (And.intro itB jB)))
            clear fB mB itB jB kB eB rB
            gi_wp2
            go_roundw
            case rel => exact ⟨pos + m, -1, [], pre ++ [c], rfl, hm2, .inl ⟨rfl, rfl⟩, hF.out.2.2.1, hTold.out, hF.out.2.2.2, hF.out.1, hF.out.2.1⟩
            case measure => rw [posB]; simp [World.iterPos, hit]; omega
          · obtain ⟨fB, -⟩ := HT.out.round fA jA rB
            have hF := Lib.hid (And.intro fB jxB)
            clear fB jxB rB
            gi_wp2
            refine bodyPost_ret (results_none rfl _ _ _) rfl ?_
            exact ⟨⟨_, rfl⟩, hF.out.1.rnd, .inr ⟨pre ++ [c], ⟨_, hTold.out⟩, hF.out.2⟩⟩
    · have hnx : ∀ ty, (Instr.next (.pointer (some ⟨W.heap.size, 0, none⟩)) true ty).run Try.prog wr = _ := fun ty => Lib.run_next_end_at wr W.heap.size s pos ty hit hp
      have hps : pos = s.size := by have := HR.out.le; omega
      have hdn : (bsI s).drop pos = [] := List.drop_eq_nil_of_le (by omega)
      have htold := HR.out.told
      rw [hdn, rowsS_nil] at htold
      have csA := cellS.out wr HR.out.far
      rcases HR.out.at_ with ⟨rfl, rfl⟩ | ⟨i, rfl, hip, hc⟩
      · have hTold := Lib.hid htold
        clear htold hdn
        gi_wp2
        go_end0
        refine ⟨⟨_, rfl⟩, HR.out.far.rnd, .inl ?_⟩
        have h1 := hTold.out
        rw [show finR ([] : List Int) = [] from rfl, List.append_nil] at h1
        rw [← h1]
        exact HR.out.j
      · have hcl : c.length = pos - i := by rw [hc]; exact cut_len _ (by omega)
        have hfin : finR c = [c] := by unfold finR; rw [if_neg (by omega)]
        rw [hfin] at htold
        obtain ⟨fn, tmps, assign, body, hy, hRd⟩ := HT.out.yields pre c wr HR.out.j ⟨[], by rw [List.append_nil]; exact htold⟩
        have hTold := Lib.hid htold
        clear htold hdn
        rw [hc, ← extract_cut, hps] at hy
        have hRd := Lib.hid (fun m : Nat => yield_round (m' := m) hRd)
        gi_wp2
        refine (hRd.out _).mono ?_
        rintro e B ⟨rB, hj⟩
        obtain ⟨fB, -⟩ := HT.out.round HR.out.far HR.out.j rB
        have hF := Lib.hid (And.intro fB hj)
        rcases hj with ⟨rfl, jB⟩ | ⟨rfl, jxB⟩
        · clear fB rB
          gi_wp2
          go_end0
          exact ⟨⟨_, rfl⟩, hF.out.1.rnd, .inl (by rw [← hTold.out]; exact jB)⟩
        · clear fB rB
          gi_wp2
          go_end0
          exact ⟨⟨_, rfl⟩, hF.out.1.rnd, .inr ⟨pre ++ [c], ⟨[], by rw [List.append_nil]; exact hTold.out⟩, jxB⟩⟩
end Go.Proofs.Ytgcbcmhdlgklgaa
