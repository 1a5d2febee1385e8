/- The law PathPicks over its contracts: no statement is proved here. -/
import Derived.Test.YtkklnfihjikilaaDoorPathAwake
import Derived.Test.YtkklnfihjikilaaDoorPathPick2
import Derived.Test.YtkklnfihjikilaaDoorSame
namespace Go.Proofs.YtkklnfihjikilaaDoor
open Go.RowKit
set_option maxRecDepth 100000

theorem picks_six {n : Int} {s : ByteArray} {l : List V} {d : List (ByteArray × V)} {p : ByteArray} {r : List ByteArray} : kindV (pickV (.mk 6 n s l d) (p :: r)) = 6 := by
  rw [pickV, if_neg (by decide), if_pos rfl]
  rfl
theorem picks_none {k n : Int} {s : ByteArray} {l : List V} {d : List (ByteArray × V)} {p : ByteArray} {r : List ByteArray} (h5 : k ≠ 5) (h6 : k ≠ 6) : pickV (.mk k n s l d) (p :: r) = zeroV := by
  rw [pickV, if_neg h5, if_neg h6]
theorem picks_doc {n : Int} {s : ByteArray} {l : List V} {d : List (ByteArray × V)} {p : ByteArray} {r : List ByteArray} : pickV (.mk 5 n s l d) (p :: r) = match getV (.mk 5 n s l d) p with | some x => pickV x r | none => zeroV := by
  rw [pickV, if_pos rfl, pickFind_find, getV, if_pos rfl]
  cases findD d p <;> rfl
theorem box_two {W w10 : World} {t10 : T} {g : Nat} (b10 : Below W.heap.size W w10) (ho : t10.Own w10 W.heap.size) (hr : W.heap[g]? = some (.cells #[.int .i64 0, .int .i64 0, .string ⟨#[]⟩, .slice none 0 0, .slice none 0 0] 31 (0, 0))) : BoxR w10 g t10 := box_end ho b10 hr
theorem get_uni {v : V} {s : ByteArray} {w : World} {e : Ending} {w' : World} (h : GetsTo v s w e w') : ∃ (t' : T) (is : Bool), e = .returned (.tuple #[t'.arg, .bool is]) ∧ (getV v s = if is then some t'.val else none) ∧ t'.Own w' w.heap.size ∧ Below w.heap.size w w' := by
  rcases h with ⟨h1, rfl, hb⟩ | ⟨t', h1, rfl, ho, hb⟩
  · exact ⟨zeroT, false, rfl, by simpa using h1, zero_own _ _, hb⟩
  · exact ⟨t', true, rfl, by simpa using h1, ho, hb⟩
def GetTail (U : World) (ab : Nat) (A : Array Value) (v : V) (p : ByteArray) (bx : Nat) (is : Bool) (t' : T) (F : World) : Prop :=
  Below U.heap.size U F ∧ F.heap[bx]? = some (.cells t'.cells.toArray 31 (0, 0)) ∧ t'.In F ∧ t'.ok ∧ (getV v p = if is then some t'.val else none) ∧ F.heap[ab]? = some (.cells A 31 (0, 0))
def GetDone (U : World) (ab : Nat) (A : Array Value) (v : V) (p : ByteArray) (act a : Act) (F : World) : Prop :=
  ∃ (bx : Nat) (v44 v45 v46 v47 v48 v49 v50 : Value) (is : Bool) (t' : T), a = (((((((((act.put (some 8) (.pointer (some ⟨bx, 0, none⟩))).put (some 9) (.bool is)).put (some 44) v44).put (some 45) v45).put (some 46) v46).put (some 47) v47).put (some 48) v48).put (some 49) v49).put (some 50) v50).put (some 51) (.bool is) ∧ GetTail U ab A v p bx is t' F
theorem get_new {U w5 : World} {ab B : Nat} {A : Array Value} {v : V} {p : ByteArray} {is : Bool} {t' : T} (BU : Below U.heap.size U w5) (ra : U.heap[ab]? = some (.cells A 31 (0, 0))) (ho : t'.Own w5 B) (hg : getV v p = if is then some t'.val else none) :
    GetTail U ab A v p w5.heap.size is t' (w5.alloc (.cells t'.cells.toArray 31)) := by
  have b := below_then BU (below1 w5 (.cells t'.cells.toArray 31))
  exact ⟨b, heap_alloc_new w5 _, (owns_in _ ho.owns).then_ (below1 w5 _), ho.ok, hg, row_then ra b⟩
theorem get_set {U w5 : World} {ab g : Nat} {A : Array Value} {v : V} {p : ByteArray} {is : Bool} {k n : Int} {s : ByteArray} {la : Option Addr} {lc : Nat} {l : List T} {da : Option Addr} {dc : Nat} {d : List (ByteArray × T)} (BU : Below U.heap.size U w5) (ra : U.heap[ab]? = some (.cells A 31 (0, 0)))
    (RB : BoxR w5 g (.mk k n s la lc l da dc d)) (hl : U.heap.size ≤ g) (hg : getV v p = if is then some (T.val (.mk k n s la lc l da dc d)) else none) :
    GetTail U ab A v p g is (.mk k n s la lc l da dc d) (((((w5.setCell ⟨g, 0, none⟩ (.int .i64 k)).setCell ⟨g, 1, none⟩ (.int .i64 n)).setCell ⟨g, 2, none⟩ (.string s)).setCell ⟨g, 3, none⟩ (.slice la l.length lc)).setCell ⟨g, 4, none⟩ (.slice da d.length dc)) := by
  obtain ⟨hr, B, hB, ho⟩ := RB
  have o5 := only_set5 w5 g (.int .i64 k) (.int .i64 n) (.string s) (.slice la l.length lc) (.slice da d.length dc)
  have bF : Below U.heap.size U _ := ((Only.of_below (S := []) BU).then_ o5 (by simp; omega)).below
  have hk := ho.keep o5 (by simp; omega) (Nat.le_refl _)
  exact ⟨bF, set5_row _ _ _ _ _ hr, owns_in _ hk.owns, hk.ok, hg, row_then ra bF⟩
set_option maxHeartbeats 4000000 in
theorem picks_law (t : T) (pa : Option Addr) (pc : Nat) (ps : List ByteArray) (w : World) (ok : t.ok) (hin : t.In w) (hps : Parts w pa pc ps) (hT : Tabs4 w) :
    Calls Tryd.prog 7 #[t.arg, .slice pa ps.length pc] w fun e w' => e = .returned (.bool true) ∧ Below w.heap.size w w' := by
  have HP := Lib.hid hps
  have HI := Lib.hid hin
  have HO := Lib.hid ok
  have HT := Lib.hid hT
  have RB := heap_alloc_new w (.cells t.cells.toArray 31)
  clear ok hin hps hT
  cases ps with
  | nil =>
    obtain ⟨kt, nt, st, lat, lct, lt, dat, dct, dt⟩ := t
    show Calls _ _ #[.agg #[.int .i64 kt, .int .i64 nt, .string st, .slice lat lt.length lct, .slice dat dt.length dct], .slice pa 0 pc] _ _
    go_enter Tryd.func7, Tryd.ntmps7
    go_wp2_with fail
    refine (awake04_any _ (HT.out.then_ (below1 _ _))).mono ?_
    rintro e w1 ⟨rfl, b1⟩
    go_wp2_with fail
    go_ret
    exact ⟨rfl, below_then (below1 _ _) b1⟩
  | cons p r =>
    by_cases h10 : 10 < (p :: r).length
    · obtain ⟨kt, nt, st, lat, lct, lt, dat, dct, dt⟩ := t
      show Calls _ _ #[.agg #[.int .i64 kt, .int .i64 nt, .string st, .slice lat lt.length lct, .slice dat dt.length dct], .slice pa (r.length + 1) pc] _ _
      have h1 : ¬ ((r.length : Int) + 1 < 1) := by omega
      have h2 : (10 : Int) < (r.length : Int) + 1 := by simp at h10; omega
      clear h10
      go_enter Tryd.func7, Tryd.ntmps7
      go_wp2_with fail
      refine (awake04_any _ (HT.out.then_ (below1 _ _))).mono ?_
      rintro e w1 ⟨rfl, b1⟩
      go_wp2_with fail
      go_ret
      exact ⟨rfl, below_then (below1 _ _) b1⟩
    · have h1 : ¬ ((r.length : Int) + 1 < 1) := by omega
      have h2 : ¬ ((10 : Int) < (r.length : Int) + 1) := by simp at h10; omega
      have h3 : (p :: r).length ≤ 10 := by omega
      have HK := Lib.hid (fun w h hp => Pick_any t HO.out pa pc (p :: r) w h hp h3)
      have HSM := Lib.hid (fun a => same_any a)
      obtain ⟨b, o, rfl, hc0, hpo⟩ := HP.out.head
      have HC0 := Lib.hid hc0
      obtain ⟨kt, nt, st, lat, lct, lt, dat, dct, dt⟩ := t
      show Calls _ _ #[.agg #[.int .i64 kt, .int .i64 nt, .string st, .slice lat lt.length lct, .slice dat dt.length dct], .slice (some ⟨b, o, none⟩) (r.length + 1) pc] _ _
      clear h10 h3 hc0
      go_enter Tryd.func7, Tryd.ntmps7
      go_wp2_with fail
      refine (awake04_any _ (HT.out.then_ (below1 _ _))).mono ?_
      rintro e w1 ⟨rfl, b1⟩
      have R1 := row_then RB b1
      have X1 := row_cells R1
      dsimp only [T.cells] at X1
      have B1 := Lib.hid (below_then (below1 w _) b1)
      clear b1
      go_wp2_with fail
      refine (HK.out w1 (HI.out.then_ B1.out) (HP.out.then_ B1.out)).mono ?_
      rintro e w2 ⟨⟨ka, na, sa, laa, lca, la, daa, dca, da⟩, rfl, hv2, ho2, b2⟩
      dsimp only [T.arg, T.cells]
      have R2 := row_then R1 b2
      have HV := Lib.hid hv2
      have BA := below1 w2 (.cells #[.int .i64 ka, .int .i64 na, .string sa, .slice laa la.length lca, .slice daa da.length dca] 31)
      have RA := heap_alloc_new w2 (.cells #[.int .i64 ka, .int .i64 na, .string sa, .slice laa la.length lca, .slice daa da.length dca] 31)
      have R3 := row_then R2 BA
      have HA := Lib.hid ((owns_in _ ho2.owns).then_ BA)
      have OA := Lib.hid ho2.ok
      have B3 := Lib.hid (below_then (below_then B1.out b2) BA)
      have X2 := row_cells R2
      have l2 := lt_of_block R2
      dsimp only [T.cells] at X2
      clear X1 R1 R2 b2 hv2 ho2 HK B1 BA
      replace RA := Lib.hid RA
      replace R3 := Lib.hid R3
      by_cases h5 : kt = 5
      · subst h5
        have HPK := Lib.hid (picks_doc (n := nt) (s := st) (l := lt.map T.val) (d := dt.map fun f => (f.1, f.2.val)) (p := p) (r := r))
        go_wp2_with fail
        have RT := R3.out
        have RAA := RA.out
        generalize w2.alloc (.cells #[.int .i64 ka, .int .i64 na, .string sa, .slice laa la.length lca, .slice daa da.length dca] 31) = U at RT RAA HA B3 ⊢
        have XT := row_cells RT
        dsimp only [T.cells] at XT
        have XP : U.cell? ⟨b, o, none⟩ = some (.string p) := (B3.out.cell (cell_lt HC0.out)).trans HC0.out
        have lT := lt_of_block RT
        have lP := cell_lt XP
        have lAA := lt_of_block RAA
        clear X2 l2
        refine cut_code (GetDone U w2.heap.size #[.int .i64 ka, .int .i64 na, .string sa, .slice laa la.length lca, .slice daa da.length dca] (T.val (.mk 5 nt st lat lct lt dat dct dt)) p) ?_ ?_
        · replace RAA := Lib.hid RAA
          clear RT
          go_region_law (first
            | (refine step_enter (o := { dst := some 49, op := _, type := _, pos := _, after := _, guard := none }) rfl 23 #[.agg #[.int .i64 5, .int .i64 nt, .string st, .slice lat lt.length lct, .slice dat dt.length dct], .string p] (by go_simp) ((get_any (.mk 5 nt st lat lct lt dat dct dt) HO.out p _ (by first | exact (HI.out.then_ B3.out).drew' | exact (HI.out.then_ (below_then B3.out (below1 _ _))).drew' | fail)).mono ?_); rintro e w5 hg; obtain ⟨⟨k5, n5, s5, la5, lc5, l5, da5, dc5, d5⟩, is, rfl, hgv, ho5, b5⟩ := get_uni hg; clear hg; have c5 := drop_drew2 b5; have BU5 : Below U.heap.size U w5 := (by first | exact c5 | exact below_then (below1 _ _) c5 | fail); (try (have RQ : BoxR w5 U.heap.size (.mk k5 n5 s5 la5 lc5 l5 da5 dc5 d5) := (by first | exact box_two c5 ho5 (heap_alloc_at _ _ _ rfl) | fail); have XB := row_cells RQ.1; have YB := row_free RQ.1)); refine ⟨_, rfl, ?_⟩; dsimp only [T.arg, T.cells])
            | fail)
          all_goals
            change GetDone _ _ _ _ _ _ _ _
            unfold GetDone
            simp only [List.getElem_toArray, List.getElem_cons_succ, List.getElem_cons_zero, Act.put, List.setIfInBounds_toArray, List.set_cons_succ, List.set_cons_zero]
            refine ⟨_, _, _, _, _, _, _, _, is, .mk k5 n5 s5 la5 lc5 l5 da5 dc5 d5, rfl, ?_⟩
            first | (have h := get_set BU5 RAA.out RQ (Nat.le_refl _) hgv; exact h) | (have h := get_new BU5 RAA.out ho5 hgv; exact h)
        · rintro a F ⟨bx, v44, v45, v46, v47, v48, v49, v50, is, t', rfl, hB, hrow, hin, hok, hgv, hab⟩
          refine ‹∀ (a : Act) (w : World), _ → _› _ _ ?_
          simp only [Act.put, List.setIfInBounds_toArray, List.set_cons_succ, List.set_cons_zero]
          have HAF := Lib.hid (HA.out.then_ hB)
          have BF := Lib.hid (below_then B3.out hB)
          have HIN := Lib.hid hin
          have HOK := Lib.hid hok
          have XA := row_cells hab
          have HAB := Lib.hid hab
          have XB := row_cells hrow
          have HPT := Lib.hid (fun w' (h : Below w.heap.size w w') => parts_tail (HP.out.then_ h))
          have HKR := Lib.hid (fun x okx pa' pc' w' hx hp => Pick_any x okx pa' pc' r w' hx hp (by omega))
          have hgv2 : getV (.mk 5 nt st (lt.map T.val) (dt.map fun f => (f.1, f.2.val))) p = if is then some t'.val else none := by have := hgv; rw [T.val_mk (k := 5)] at this; exact this
          have hall : (T.mk ka na sa laa lca la daa dca da).val = match (if is = true then some t'.val else none) with | some x => pickV x r | none => zeroV := by
            rw [HV.out, T.val_mk, HPK.out, hgv2]
          clear hB hin hok hgv hgv2 hrow hab HV HPK RT RAA HA B3 XT XP lT lP lAA R3 RA HI HO RB HT HC0
          cases is with
          | false =>
            have HAL := Lib.hid (show (T.mk ka na sa laa lca la daa dca da).val = zeroV from hall)
            clear hall
            go_wp2_with fail
            refine (HSM.out (.mk ka na sa laa lca la daa dca da) zeroT _ OA.out zero_ok HAF.out (zero_in _)).mono ?_
            rintro e w6 ⟨rfl, b6⟩
            have hs : sameV (T.mk ka na sa laa lca la daa dca da).val zeroT.val = true := by
              rw [sameV_iff, HAL.out, zero_val]
            rw [hs]
            have B6 := Lib.hid (below_then BF.out b6)
            clear b6 XA XB
            go_wp2_with fail
            go_ret
            exact ⟨rfl, B6.out⟩
          | true =>
            have HAL := Lib.hid (show (T.mk ka na sa laa lca la daa dca da).val = pickV t'.val r from hall)
            clear hall
            obtain ⟨k5, n5, s5, la5, lc5, l5, da5, dc5, d5⟩ := t'
            dsimp only [T.cells] at XB
            have hl2 : (1 : Int) ≤ (r.length : Int) + 1 := by omega
            go_wp2_with fail
            go_region_law (first
              | (refine step_enter (o := { dst := some 61, op := _, type := _, pos := _, after := _, guard := none }) rfl 24 #[.agg #[.int .i64 k5, .int .i64 n5, .string s5, .slice la5 l5.length lc5, .slice da5 d5.length dc5], .slice (if pc = 1 then some ⟨b, o, none⟩ else some ⟨b, o + 1, none⟩) r.length (pc - 1)] (by go_simp) ((HKR.out _ HOK.out _ _ _ HIN.out.drew' (HPT.out _ BF.out).drew').mono ?_); rintro e w6 ⟨⟨k6, n6, s6, la6, lc6, l6, da6, dc6, d6⟩, rfl, hv6, ho6, b6'⟩; have b6 := drop_drew2 b6'; have HA6 := Lib.hid (HAF.out.then_ b6); have XA6 := row_cells (row_then HAB.out b6); have HV6 := Lib.hid hv6; have B6 := Lib.hid (below_then BF.out b6); have HI6 := Lib.hid (owns_in _ ho6.owns); have HO6 := Lib.hid ho6.ok; clear hv6 ho6; refine ⟨_, rfl, ?_⟩; dsimp only [T.arg, T.cells])
              | (refine step_enter (o := { dst := some 62, op := _, type := _, pos := _, after := _, guard := none }) rfl 16 #[.agg #[.int .i64 ka, .int .i64 na, .string sa, .slice laa la.length lca, .slice daa da.length dca], .agg #[.int .i64 k6, .int .i64 n6, .string s6, .slice la6 l6.length lc6, .slice da6 d6.length dc6]] (by go_simp) ((HSM.out (.mk ka na sa laa lca la daa dca da) (.mk k6 n6 s6 la6 lc6 l6 da6 dc6 d6) _ OA.out HO6.out HA6.out HI6.out).mono ?_); rintro e w7 ⟨rfl, b7⟩; have hs : sameV (T.mk ka na sa laa lca la daa dca da).val (T.mk k6 n6 s6 la6 lc6 l6 da6 dc6 d6).val = true := (by rw [sameV_iff, HAL.out, HV6.out]); rw [hs]; have B7 := Lib.hid (below_then B6.out b7); refine ⟨_, rfl, ?_⟩)
              | fail)
            all_goals
              refine ‹∀ (a : Act) (w : World), _ → _› _ _ ?_
              go_wp2_with fail
              all_goals go_ret
              all_goals exact ⟨rfl, B7.out⟩
      · have h5b : (kt == 5) = false := by simpa using h5
        have h5c : (kt != 5) = true := by simpa using h5
        go_wp2_with fail
        refine (HSM.out (.mk ka na sa laa lca la daa dca da) zeroT _ OA.out zero_ok HA.out (zero_in _)).mono ?_
        rintro e w4 ⟨rfl, b4⟩
        have XT := row_cells (row_then R3.out b4)
        have XA := row_cells (row_then RA.out b4)
        dsimp only [T.cells] at XT
        have B4 := Lib.hid (below_then B3.out b4)
        by_cases h6 : kt = 6
        · subst h6
          have e6 : ka = 6 := by
            have := HV.out
            have h := congrArg kindV this
            rw [T.val_mk (k := 6), picks_six] at h
            exact h
          subst e6
          clear b4 X2 l2
          go_wp2_with fail
          all_goals go_ret
          all_goals exact ⟨rfl, B4.out⟩
        · have h6b : (kt == 6) = false := by simpa using h6
          have hs : sameV (T.mk ka na sa laa lca la daa dca da).val zeroT.val = true := by
            rw [sameV_iff, HV.out, T.val_mk, picks_none h5 h6, zero_val]
          rw [hs]
          clear b4 X2 l2
          go_wp2_with fail
          all_goals go_ret
          all_goals exact ⟨rfl, B4.out⟩
#print axioms picks_law
end Go.Proofs.YtkklnfihjikilaaDoor
