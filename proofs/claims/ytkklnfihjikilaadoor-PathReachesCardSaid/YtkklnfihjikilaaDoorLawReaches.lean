/- The law PathReaches over its contracts: no statement is proved here. -/
import Derived.Test.YtkklnfihjikilaaDoorPathAwake
import Derived.Test.YtkklnfihjikilaaDoorPathReach2
import Derived.Test.YtkklnfihjikilaaDoorSame
namespace Go.Proofs.YtkklnfihjikilaaDoor
open Go.RowKit
set_option maxRecDepth 100000

theorem at_unz {o : Option V} {w : World} {e : Ending} {w' : World} (h : AtTo o w e w') : ∃ (t' : T) (is : Bool), e = .returned (.tuple #[t'.arg, .bool is]) ∧ (o = if is then some t'.val else none) ∧ t'.Own w' w.heap.size ∧ Below w.heap.size w w' := by
  rcases h with ⟨h1, rfl, hb⟩ | ⟨t', h1, rfl, ho, hb⟩
  · exact ⟨zeroT, false, rfl, by simpa using h1, zero_own _ _, hb⟩
  · exact ⟨t', true, rfl, by simpa using h1, ho, hb⟩
theorem get_unz {v : V} {s : ByteArray} {w : World} {e : Ending} {w' : World} (h : GetsTo v s w e w') : ∃ (t' : T) (is : Bool), e = .returned (.tuple #[t'.arg, .bool is]) ∧ t'.val = (getV v s).getD zeroV ∧ t'.Own w' w.heap.size ∧ Below w.heap.size w w' := by
  rcases h with ⟨h1, rfl, hb⟩ | ⟨t', h1, rfl, ho, hb⟩
  · exact ⟨zeroT, false, rfl, by rw [h1, zero_val]; rfl, zero_own _ _, hb⟩
  · exact ⟨t', true, rfl, by rw [h1]; rfl, ho, hb⟩
/-- Has x been wasIn among the first k? -/
def wasIn (ts : List T) (x : V) (k : Nat) : Bool := (ts.take k).any fun y => sameV y.val x
theorem wasIn_next {ts : List T} {x : V} {k : Nat} {y : T} (h : ts[k]? = some y) : wasIn ts x (k + 1) = (wasIn ts x k || sameV y.val x) := by
  unfold wasIn
  rw [List.take_succ_eq_append_getElem (List.getElem?_eq_some_iff.1 h).1, List.any_append, (List.getElem?_eq_some_iff.1 h).2]
  simp
theorem wasIn_all {ts : List T} {x : V} {k : Nat} (h : x ∈ ts.map T.val) (hk : ¬ k < ts.length) : wasIn ts x k = true := by
  obtain ⟨y, hy, rfl⟩ := List.mem_map.1 h
  unfold wasIn
  rw [List.take_of_length_le (by omega), List.any_eq_true]
  exact ⟨y, hy, (sameV_iff _ _).2 rfl⟩
/-- Below 1000 nothing is cut off. -/
theorem reach_whole {v : V} {ps : List ByteArray} {l : List V} (h : l = reachV v ps) (h10 : ¬ 10 < ps.length) (hl : ¬ 1000 ≤ l.length) : l = metV v ps := by
  rw [reachV, reachS, if_neg h10] at h
  subst h
  rw [List.length_take] at hl
  rw [List.take_of_length_le (by omega)]
/-- At a round's head of the second loop: so many parts have been gone, what stands there lies in the box. -/
structure GoneRel (U wr : World) (g : Nat) (v : V) (ps : List ByteArray) (k : Nat) (t : T) : Prop where
  below : Below U.heap.size U wr
  box : wr.heap[g]? = some (.cells t.cells.toArray 31 (0, 0))
  in_ : t.In wr
  ok : t.ok
  gone : goneV v ps = goneV t.val (ps.drop k)
  met : listMet v ps = listMet t.val (ps.drop k)
theorem GoneRel.next {U wr w5 : World} {g : Nat} {v : V} {ps : List ByteArray} {k : Nat} {t : T} {p : ByteArray} {k5 n5 : Int} {s5 : ByteArray} {la5 : Option Addr} {lc5 : Nat} {l5 : List T} {da5 : Option Addr} {dc5 : Nat} {d5 : List (ByteArray × T)} (R : GoneRel U wr g v ps k t) (hp : ps[k]? = some p) (hk : kindV t.val ≠ 6) (hg : U.heap.size ≤ g)
    (hv : T.val (.mk k5 n5 s5 la5 lc5 l5 da5 dc5 d5) = (getV t.val p).getD zeroV) (ho : T.Own w5 wr.heap.size (.mk k5 n5 s5 la5 lc5 l5 da5 dc5 d5)) (hb : Below wr.heap.size wr w5) :
    GoneRel U (((((w5.setCell ⟨g, 0, none⟩ (.int .i64 k5)).setCell ⟨g, 1, none⟩ (.int .i64 n5)).setCell ⟨g, 2, none⟩ (.string s5)).setCell ⟨g, 3, none⟩ (.slice la5 l5.length lc5)).setCell ⟨g, 4, none⟩ (.slice da5 d5.length dc5)) g v ps (k + 1) (.mk k5 n5 s5 la5 lc5 l5 da5 dc5 d5) := by
  have o5 := only_set5 w5 g (.int .i64 k5) (.int .i64 n5) (.string s5) (.slice la5 l5.length lc5) (.slice da5 d5.length dc5)
  have hgl : g < wr.heap.size := lt_of_block R.box
  have hr := row_then R.box hb
  have BU := below_then R.below hb
  have hd : ps.drop k = p :: ps.drop (k + 1) := by
    obtain ⟨h1, rfl⟩ := List.getElem?_eq_some_iff.1 hp
    exact List.drop_eq_getElem_cons h1
  have hkk := ho.keep o5 (by simp; omega) (Nat.le_refl _)
  obtain ⟨k1, n1, s1, la1, lc1, l1, da1, dc1, d1⟩ := t
  refine ⟨((Only.of_below (S := []) BU).then_ o5 (by simp; omega)).below, set5_row _ _ _ _ _ hr, owns_in _ hkk.owns, hkk.ok, ?_, ?_⟩
  · rw [R.gone, hd, goneV, hv]
  · rw [R.met, hd, listMet, hv]
    have : (kindV (T.val (.mk k1 n1 s1 la1 lc1 l1 da1 dc1 d1)) == 6) = false := by simpa using hk
    rw [this, Bool.false_or]
theorem GoneRel.stop {U wr : World} {g : Nat} {v : V} {ps : List ByteArray} {k : Nat} {t : T} {ts : List T} (R : GoneRel U wr g v ps k t) (hk : ¬ k < ps.length) (hts : ts.map T.val = metV v ps) : ∃ x, ts = [x] ∧ x.val = t.val := by
  have h0 : ps.drop k = [] := List.drop_eq_nil_of_le (by omega)
  have hm := R.met
  have hg := R.gone
  rw [h0] at hm hg
  rw [listMet] at hm
  rw [met_gone _ _ hm, hg] at hts
  rw [goneV] at hts
  match ts, hts with
  | [x], hts => exact ⟨x, rfl, by simpa using hts⟩
  | [], hts => simp at hts
  | _ :: _ :: _, hts => simp at hts
set_option maxHeartbeats 4000000 in
theorem reaches_law (t : T) (pa : Option Addr) (pc : Nat) (ps : List ByteArray) (w : World) (ok : t.ok) (hin : t.In w) (hps : Parts w pa pc ps) (hT : Tabs4 w) :
    Calls Tryd.prog 6 #[t.arg, .slice pa ps.length pc] w fun e w' => e = .returned (.bool true) ∧ Below w.heap.size w w' := by
  have HP := Lib.hid hps
  have HI := Lib.hid hin
  have HO := Lib.hid ok
  have HT := Lib.hid hT
  have R0 := Lib.hid (heap_alloc_new w (.cells t.cells.toArray 31))
  have HLP := Lib.hid hps.len
  clear ok hin hps hT
  obtain ⟨kt, nt, st, lat, lct, lt, dat, dct, dt⟩ := t
  show Calls _ _ #[.agg #[.int .i64 kt, .int .i64 nt, .string st, .slice lat lt.length lct, .slice dat dt.length dct], .slice pa ps.length pc] _ _
  go_enter Tryd.func6, Tryd.ntmps6
  go_wp2_with fail
  refine (awake04_any _ (HT.out.then_ (below1 _ _))).mono ?_
  rintro e w1 ⟨rfl, b1⟩
  have r1 := row_then R0.out b1
  have x1 := row_cells r1
  dsimp only [T.cells] at x1
  have B1 := Lib.hid (below_then (below1 w _) b1)
  clear b1
  go_wp2_with fail
  refine (reach_any (.mk kt nt st lat lct lt dat dct dt) HO.out pa pc ps _ (HI.out.then_ B1.out) (HP.out.then_ B1.out)).mono ?_
  rintro e w2 ⟨ra, rc, ts, rfl, hts, hown, b2⟩
  have r2 := row_then r1 b2
  have x2 := row_cells r2
  dsimp only [T.cells] at x2
  have HTS := Lib.hid hts
  have HL2 := Lib.hid (T.In.parts (owns_in _ hown.owns)).1
  have HLO := Lib.hid (hown.ok.parts.2.2.2.2.2.2.2.2.2.1)
  have hlen : ts.length * 80 ≤ 140737488351232 := hown.ok.parts.2.2.2.2.2.2.1
  have HLN := Lib.hid hlen
  have B2 := Lib.hid (below_then B1.out b2)
  clear hts hown b2 hlen x1 r1 B1
  go_wp2_with fail
  refine (at_any (.mk kt nt st lat lct lt dat dct dt) HO.out pa pc ps _ (HI.out.then_ B2.out) (HP.out.then_ B2.out)).mono ?_
  rintro e w3 ha
  obtain ⟨⟨kx, nx, sx, lax, lcx, lx, dax, dcx, dx⟩, is, rfl, hv, ow, b3⟩ := at_unz ha
  dsimp only [T.arg, T.cells]
  have c3 := below1 w3 (.cells #[.int .i64 kx, .int .i64 nx, .string sx, .slice lax lx.length lcx, .slice dax dx.length dcx] 31)
  have bc := below_then b3 c3
  have HRx := Lib.hid (heap_alloc_new w3 (.cells #[.int .i64 kx, .int .i64 nx, .string sx, .slice lax lx.length lcx, .slice dax dx.length dcx] 31))
  have HIx := Lib.hid ((owns_in _ ow.owns).then_ c3)
  have HOx := Lib.hid ow.ok
  have HVx := Lib.hid hv
  have HL3 := Lib.hid (HL2.out.then_ bc)
  have HR3 := Lib.hid (row_then r2 bc)
  have B3 := Lib.hid (below_then B2.out bc)
  clear ha hv ow b3 c3 bc x2 r2 B2 HL2
  by_cases h10 : 10 < ps.length
  · have h1 : (10 : Int) < (ps.length : Int) := by omega
    have h2 : ¬ ((ps.length : Int) ≤ 10) := by omega
    have h3 : ts.length = 0 := by
      have h := HTS.out
      rw [reachV, reachS, if_pos h10] at h
      simpa using congrArg List.length h
    have h4 : is = false := by
      have h := HVx.out
      rw [atO, if_pos h10] at h
      cases is with
      | false => rfl
      | true => cases h
    subst h4
    have h5 : ((ts.length : Int) == 0) = true := by rw [h3]; rfl
    clear h10 h3
    go_wp2_with fail
    all_goals go_ret
    all_goals exact ⟨rfl, B3.out⟩
  · have h1 : ¬ ((10 : Int) < (ps.length : Int)) := by omega
    by_cases h9 : 1000 ≤ ts.length
    · have h2 : (1000 : Int) ≤ (ts.length : Int) := by omega
      have h3 : (ps.length : Int) ≤ 10 := by omega
      go_wp2_with fail
      all_goals go_ret
      all_goals exact ⟨rfl, B3.out⟩
    · have h2 : ¬ ((1000 : Int) ≤ (ts.length : Int)) := by omega
      have HM := Lib.hid (reach_whole HTS.out h10 (by rw [List.length_map]; exact h9))
      have HP10 := Lib.hid h10
      clear HTS h10 h9
      go_wp2_with fail
      generalize w3.alloc (.cells #[.int .i64 kx, .int .i64 nx, .string sx, .slice lax lx.length lcx, .slice dax dx.length dcx] 31) = U at HRx HIx HL3 HR3 B3 ⊢
      go_loopw [9, 10, 11] (fun s9 s10 _ wr => ∃ k : Nat, k ≤ ts.length ∧ s10 = .int .i64 k ∧ s9 = .bool (wasIn ts (T.val (.mk kx nx sx lax lcx lx dax dcx dx)) k) ∧ Below U.heap.size U wr) (fun _ s10 _ _ => ts.length - (intOf s10).toNat)
      case atStart => exact ⟨0, by omega, rfl, by simp [wasIn], Below.refl _ _⟩
      case round =>
        obtain ⟨k, hk, rfl, rfl, hbel⟩ := hrel
        have BU := Lib.hid hbel
        have hx := row_cells (row_then HRx.out hbel)
        by_cases hlt : k < ts.length
        · obtain ⟨b, o, k1, n1, s1, la1, lc1, l1, da1, dc1, d1, rfl, hx1, hix, x0, x1, x2, x3, x4⟩ := (HL3.out.then_ hbel).five hlt
          have H := Lib.hid (fun w => same_any _ _ w (HLO.out _ (List.mem_of_getElem? hx1)) HOx.out)
          have HIk := Lib.hid hix
          have HIxk := Lib.hid (HIx.out.then_ hbel)
          have hn := wasIn_next (x := T.val (.mk kx nx sx lax lcx lx dax dcx dx)) hx1
          generalize hw : wasIn ts (T.val (.mk kx nx sx lax lcx lx dax dcx dx)) k = seen at hn ⊢
          have HN := Lib.hid hn
          clear hx1 hix hbel hn hw
          cases seen
          all_goals
            go_wp2_with fail
            go_still_tail 5, (by kernel_rfl)
            change wpList _ _ _ _ _ wr.drew
            go_wp2_with fail
            refine (H.out wr.drew HIk.out.drew' HIxk.out.drew').mono ?_
            rintro e wb ⟨rfl, b0⟩
            have bb : Below wr.heap.size wr wb := ⟨b0.os, b0.tape, b0.output, b0.size, b0.block⟩
            have BB := Lib.hid (below_then BU.out bb)
            clear b0 bb x0 x1 x2 x3 x4 hx
            go_wp2_with fail
            go_roundw
            case rel => exact ⟨k + 1, by omega, by go_num, by rw [HN.out]; rfl, BB.out⟩
            case measure => simp [intOf]; omega
        · have hf : is = true → wasIn ts (T.val (.mk kx nx sx lax lcx lx dax dcx dx)) k = true := by
            intro e
            refine wasIn_all ?_ hlt
            have h := HVx.out
            rw [atO, if_neg HP10.out, e] at h
            rw [HM.out]
            exact met_at _ _ _ h
          generalize wasIn ts (T.val (.mk kx nx sx lax lcx lx dax dcx dx)) k = seen at hf ⊢
          have hss : (is && !seen) = false := by cases is <;> cases seen <;> simp_all
          have r0 := row_then HR3.out hbel
          have x0 := row_cells r0
          dsimp only [T.cells] at x0
          have G0 : GoneRel wr (wr.alloc (.cells #[.int .i64 kt, .int .i64 nt, .string st, .slice lat lt.length lct, .slice dat dt.length dct] 31)) wr.heap.size (T.mk kt nt st lat lct lt dat dct dt).val ps 0 (.mk kt nt st lat lct lt dat dct dt) :=
            ⟨below1 wr _, heap_alloc_new wr _, HI.out.then_ (below_then (below_then B3.out hbel) (below1 wr _)), HO.out, by rw [List.drop_zero], by rw [List.drop_zero]⟩
          have HG0 := Lib.hid G0
          have HL4 := Lib.hid (HL3.out.then_ hbel)
          have BV := Lib.hid (below_then B3.out hbel)
          clear G0 r0 hf hx
          cases is <;> cases seen
          case true.false => cases hss
          all_goals
            clear hss
            go_wp2_with fail
            generalize wr.alloc (.cells #[.int .i64 kt, .int .i64 nt, .string st, .slice lat lt.length lct, .slice dat dt.length dct] 31) = V at HG0 ⊢
            generalize hgg : wr.heap.size = g at HG0 ⊢
            have HGG := Lib.hid (Nat.le_of_eq hgg)
            clear hgg
            go_loopw [13] (fun s13 wv => ∃ (k : Nat) (tk : T), k ≤ ps.length ∧ s13 = .int .i64 k ∧ GoneRel wr wv g (T.mk kt nt st lat lct lt dat dct dt).val ps k tk) (fun s13 _ => ps.length - (intOf s13).toNat)
            case atStart => exact ⟨0, _, by omega, rfl, HG0.out⟩
            case round =>
              obtain ⟨k, tk, hk, rfl, hrel⟩ := hrel
              have HRL := Lib.hid hrel
              obtain ⟨k1, n1, s1, la1, lc1, l1, da1, dc1, d1⟩ := tk
              have hcells := row_cells hrel.box
              have hg := lt_of_block hrel.box
              dsimp only [T.cells] at hcells
              clear hrel
              by_cases h1 : k < ps.length
              · obtain ⟨p, hp⟩ : ∃ p, ps[k]? = some p := ⟨_, List.getElem?_eq_getElem h1⟩
                obtain ⟨b, o, rfl, hc⟩ := HP.out.in_ k p hp
                have hc1 := (HRL.out.below.cell (cell_lt ((BV.out.cell (cell_lt hc)).trans hc))).trans ((BV.out.cell (cell_lt hc)).trans hc)
                have h0 : ¬ ((k : Int) < 0) := by omega
                have HPK := Lib.hid hp
                clear hc hp
                by_cases h6 : k1 = 6
                · subst h6
                  go_wp2_with fail
                  all_goals go_ret
                  all_goals exact ⟨rfl, below_then BV.out HRL.out.below⟩
                · have h6b : (k1 == 6) = false := by simpa using h6
                  have hrb := lt_of_block HRL.out.box
                  go_wp2_with fail
                  go_region_law (first
                    | (refine step_enter (o := { dst := some 88, op := _, type := _, pos := _, after := _, guard := none }) rfl 23 #[.agg #[.int .i64 k1, .int .i64 n1, .string s1, .slice la1 l1.length lc1, .slice da1 d1.length dc1], .string p] (by go_simp) ((get_any (.mk k1 n1 s1 la1 lc1 l1 da1 dc1 d1) HRL.out.ok p _ HRL.out.in_.drew').mono ?_); rintro e w5 hgt; obtain ⟨⟨k5, n5, s5, la5, lc5, l5, da5, dc5, d5⟩, is5, rfl, hgv, ho5, b5⟩ := get_unz hgt; clear hgt; have c5 := drop_drew2 b5; have RB5 := row_then HRL.out.box c5; have XB5 := row_cells RB5; have YB5 := row_free RB5; dsimp only [T.cells] at XB5; have HN5 := Lib.hid (HRL.out.next HPK.out (by rw [T.val_mk]; exact h6) HGG.out hgv ho5 c5); clear hgv ho5 b5; refine ⟨_, rfl, ?_⟩; dsimp only [T.arg, T.cells])
                    | fail)
                  all_goals
                    try simp only [List.getElem_toArray, List.getElem_cons_succ, List.getElem_cons_zero, Act.put, List.setIfInBounds_toArray, List.set_cons_succ, List.set_cons_zero]
                    go_wp2_with fail
                    go_roundw
                    case rel => exact ⟨k + 1, _, by omega, by go_num, HN5.out⟩
                    case measure => simp [intOf]; omega
              · obtain ⟨x, hx, hxv⟩ := HRL.out.stop h1 HM.out
                have hl1 : ts.length = 1 := by rw [hx]; rfl
                obtain ⟨b, o, k2, n2, s2, la2, lc2, l2, da2, dc2, d2, rfl, hx1, hix, x0, x1, x2, x3, x4⟩ := (HL4.out.then_ HRL.out.below).five (i := 0) (by omega)
                simp only [Nat.zero_mul, Nat.add_zero] at x0 x1 x2 x3 x4
                have hx2 : x = T.mk k2 n2 s2 la2 lc2 l2 da2 dc2 d2 := by rw [hx] at hx1; simpa using hx1
                subst hx2
                have HS := Lib.hid ((sameV_iff _ _).2 hxv)
                have H := Lib.hid (fun w => same_any (.mk k2 n2 s2 la2 lc2 l2 da2 dc2 d2) (.mk k1 n1 s1 la1 lc1 l1 da1 dc1 d1) w (HLO.out _ (List.mem_of_getElem? hx1)) HRL.out.ok)
                have HIk := Lib.hid hix
                clear hx1 hix hxv hx
                rw [hl1]
                go_wp2_with fail
                go_still_tail 4, (by kernel_rfl)
                change wpList _ _ _ _ _ wr.drew
                go_wp2_with fail
                refine (H.out _ HIk.out.drew' HRL.out.in_.drew').mono ?_
                rintro e wz ⟨rfl, b0⟩
                rw [HS.out]
                have bz := drop_drew2 b0
                have BZ := Lib.hid (below_then (below_then BV.out HRL.out.below) bz)
                clear b0 bz x0 x1 x2 x3 x4 hcells
                go_wp2_with fail
                go_ret
                exact ⟨rfl, BZ.out⟩
end Go.Proofs.YtkklnfihjikilaaDoor
