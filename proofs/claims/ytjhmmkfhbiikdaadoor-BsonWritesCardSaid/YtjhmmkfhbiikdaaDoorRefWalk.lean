/- The contract of the document's own Right: no statement is proved here. -/
import Derived.Test.YtjhmmkfhbiikdaaDoorRefRight
import Derived.Test.YtjhmmkfhbiikdaaDoorPlain
namespace Go.Proofs.YtjhmmkfhbiikdaaDoor
open Go.RowKit
set_option maxRecDepth 100000

theorem alone_split {k n : Int} {s : ByteArray} {l : List V} {d : List (ByteArray × V)} (h : aloneV (.mk k n s l d) = true) : (k = 6 ∨ l = []) ∧ (k = 5 ∨ d = []) := by
  simp only [aloneV, Bool.and_eq_true, Bool.or_eq_true, decide_eq_true_eq, beq_iff_eq] at h
  obtain ⟨-, -, h1, h2⟩ := h
  exact ⟨h1.imp id List.eq_nil_of_length_eq_zero, h2.imp id List.eq_nil_of_length_eq_zero⟩
def mayV (f : ByteArray) (l : List (ByteArray × T)) (k : Nat) : Bool := nameOk f && !((l.take k).map fun g => g.1.data.toList).contains f.data.toList
theorem may_zero (f : ByteArray) (l : List (ByteArray × T)) : mayV f l 0 = nameOk f := by simp [mayV]
theorem may_step {f : ByteArray} {l : List (ByteArray × T)} {k : Nat} {x : ByteArray × T} (hx : l[k]? = some x) : mayV f l (k + 1) = (mayV f l k && !(x.1.toList == f.toList)) := by
  unfold mayV
  rw [List.take_add_one, hx, List.map_append, Bool.and_assoc]
  congr 1
  rw [← Bool.not_or]
  congr 1
  rw [List.contains_append, Lib.toList_data, Lib.toList_data]
  congr 1
  simp only [Option.toList_some, List.map_cons, List.map_nil, List.contains_cons, List.contains_nil, Bool.or_false]
  exact BEq.comm
theorem may_done (f : ByteArray) (l : List (ByteArray × T)) (k : Nat) : (((l.take k).map fun g => g.1.data.toList).contains f.data.toList || !nameOk f) = !mayV f l k := by
  unfold mayV
  cases nameOk f <;> cases ((l.take k).map fun g => g.1.data.toList).contains f.data.toList <;> rfl

def WalkAt (t : T) : Prop := ∀ (deep : Int) (w : World), 0 ≤ deep → deep ≤ 100 → t.In w → Tabs w →
    Calls Tryd.prog 37 #[t.arg, .int .i64 deep] w fun e w' => e = .returned (.int .i64 (rightV deep t.val)) ∧ Below w.heap.size w w'
set_option maxHeartbeats 4000000 in
theorem walk_any (t : T) : t.ok → WalkAt t := by
  induction t using T.ind with
  | h kx nx sx lax lcx lx dax dcx dx ihl ihd =>
  intro ok deep w h0 hn hin hT
  have HP := Lib.hid (fun w h => plain_any (.mk kx nx sx lax lcx lx dax dcx dx) ok w h)
  unfold PlainAt at HP
  have HV := Lib.hid (show rightV deep (T.mk kx nx sx lax lcx lx dax dcx dx).val = _ by rw [T.val_mk, rightV, ← T.val_mk kx nx sx lax lcx lx dax dcx dx])
  have HQ := Lib.hid (fun h => alone_split (k := kx) (n := nx) (s := sx) (l := lx.map T.val) (d := dx.map fun f => (f.1, f.2.val)) h)
  rw [← T.val_mk kx nx sx lax lcx lx dax dcx dx] at HQ
  obtain ⟨-, -, -, -, hs, hl1, hl2, hd1, hd2, okl, okd⟩ := ok.parts
  show Calls _ _ #[.agg #[.int .i64 kx, .int .i64 nx, .string sx, .slice lax lx.length lcx, .slice dax dx.length dcx], .int .i64 deep] _ _
  have IHL := Lib.hid (fun x hx => ihl x hx (okl x hx))
  have IHD := Lib.hid (fun x hx => ihd x hx (okd x hx).2)
  have SD := Lib.hid (fun x hx => (okd x hx).1)
  have HIN := Lib.hid hin
  have HT := Lib.hid hT
  have HB := Lib.hid (Box1.start w (.mk kx nx sx lax lcx lx dax dcx dx))
  clear ihl ihd okl okd hin ok hl1 hd1 hT
  generalize (T.mk kx nx sx lax lcx lx dax dcx dx).val = v at HP HV HQ ⊢
  generalize hA : aloneV v = av at HP HV HQ
  generalize hF : fitsV v = fv at HP HV
  clear hA hF
  by_cases k6 : kx = 6
  · subst k6
    by_cases hd : 20 < deep
    · replace HV := Lib.hid (show rightV deep v = 12 by rw [HV.out]; simp [hd])
      go_enter Tryd.func37, Tryd.ntmps37
      go_wp2_with fail
      go_ret
      exact ⟨ret_int (by rw [HV.out]), below1 _ _⟩
    · by_cases hq : (av && fv) = true
      · have hav : av = true := by cases av <;> simp_all
        have e1 : dx = [] := by simpa using (HQ.out hav).2
        replace HV := Lib.hid (show rightV deep v = rightL (deep + 1) (lx.map T.val) by rw [HV.out]; simp [hd, hq])
        rw [hq] at HP
        subst e1
        clear hq hav HQ IHD SD
        go_enter Tryd.func37, Tryd.ntmps37
        go_wp2_with fail
        refine (HP.out _ (HT.out.then_ (below1 _ _))).mono ?_
        rintro e w1 ⟨rfl, b1⟩
        go_wp2_with fail
        go_loopw [6, 7] (fun i _ wr => ∃ k : Nat, k ≤ lx.length ∧ i = .int .i64 k ∧ Box1 w wr (.mk 6 nx sx lax lcx lx dax dcx []) ∧ rightL (deep + 1) (lx.map T.val) = rightL (deep + 1) ((lx.map T.val).drop k)) (fun i _ _ => lx.length - (intOf i).toNat)
        case atStart => exact ⟨0, by omega, rfl, HB.out.then_ b1, by simp⟩
        case round =>
          clear b1
          obtain ⟨k, hk, rfl, ⟨hbel, qa⟩, heq⟩ := hrel
          have HH := Lib.hid heq
          have QA := Lib.hid qa
          have ka : ∀ o, wr.cell? ⟨w.heap.size, o, none⟩ = (#[.int .i64 6, .int .i64 nx, .string sx, .slice lax lx.length lcx, .slice dax 0 dcx] : Array Value)[o]? := row_cells qa
          clear heq qa
          by_cases h1 : k < lx.length
          · obtain ⟨b, o, k1, n1, s1, la1, lc1, l1, da1, dc1, d1, rfl, hx, hix, x0, x1, x2, x3, x4⟩ := (HIN.out.parts.1.then_ hbel).five h1
            have H := Lib.hid (IHL.out _ (List.mem_of_getElem? hx))
            have HT2 := Lib.hid (rightL_step (deep := deep + 1) (l := lx.map T.val) (k := k) (x := (T.mk k1 n1 s1 la1 lc1 l1 da1 dc1 d1).val) (by rw [List.getElem?_map, hx]; rfl))
            clear hx
            go_wp2_with (go_at_call 37; refine (H.out _ _ (by omega) (by omega) hix (HT.out.then_ hbel)).mono ?_; rintro e w2 ⟨rfl, b2⟩)
            · go_ret
              have hne := bne_iff_ne.1 ‹(_ != _) = true›
              exact ⟨ret_int (by rw [HV.out, HH.out, HT2.out, if_neg hne]), below_then hbel b2⟩
            · go_roundw
              case rel => exact ⟨k + 1, by omega, by go_num, Box1.then_ ⟨hbel, QA.out⟩ b2, by rw [HH.out, HT2.out, if_pos (bne_eq_false_iff_eq.1 ‹(_ != _) = false›)]⟩
              case measure => simp [intOf]; omega
          · replace HH := Lib.hid (HH.out.trans (rightL_done (by simp; omega)))
            go_wp2_with fail
            obtain ⟨wo, rfl⟩ : ∃ wo : World, wo = wr := ⟨_, rfl⟩
            go_loopw [8] (fun i wr => i = .int .i64 0 ∧ wr = wo) (fun _ _ => 0)
            case atStart => exact ⟨rfl, rfl⟩
            case round =>
              obtain ⟨rfl, rfl⟩ := hrel
              go_wp2_with fail
              go_ret
              exact ⟨ret_int (by rw [HV.out, HH.out]), hbel⟩
      · have hq2 : (av && fv) = false := by simpa using hq
        replace HV := Lib.hid (show rightV deep v = 10 by rw [HV.out]; simp [hd, hq2])
        rw [hq2] at HP
        clear hq hq2 HQ
        go_enter Tryd.func37, Tryd.ntmps37
        go_wp2_with fail
        refine (HP.out _ (HT.out.then_ (below1 _ _))).mono ?_
        rintro e w1 ⟨rfl, b1⟩
        go_wp2_with fail
        go_ret
        exact ⟨ret_int (by rw [HV.out]), (HB.out.then_ b1).1⟩
  by_cases k5 : kx = 5
  · subst k5
    by_cases hd : 20 < deep
    · replace HV := Lib.hid (show rightV deep v = 12 by rw [HV.out]; simp [hd])
      go_enter Tryd.func37, Tryd.ntmps37
      go_wp2_with fail
      go_ret
      exact ⟨ret_int (by rw [HV.out]), below1 _ _⟩
    · by_cases hq : (av && fv) = true
      · have hav : av = true := by cases av <;> simp_all
        have e1 : lx = [] := by simpa using (HQ.out hav).1
        replace HV := Lib.hid (show rightV deep v = rightD (deep + 1) [] (dx.map fun f => (f.1, f.2.val)) by rw [HV.out]; simp [hd, hq])
        rw [hq] at HP
        subst e1
        clear hq hav HQ IHL
        go_enter Tryd.func37, Tryd.ntmps37
        go_wp2_with fail
        refine (HP.out _ (HT.out.then_ (below1 _ _))).mono ?_
        rintro e w1 ⟨rfl, b1⟩
        replace HB := Lib.hid (HB.out.then_ b1)
        have ka : ∀ o, w1.cell? ⟨w.heap.size, o, none⟩ = (#[.int .i64 5, .int .i64 nx, .string sx, .slice lax 0 lcx, .slice dax dx.length dcx] : Array Value)[o]? := row_cells HB.out.2
        go_wp2_with fail
        go_loopw [6] (fun i wr => i = .int .i64 0 ∧ wr = w1) (fun _ _ => 0)
        case atStart => exact ⟨rfl, rfl⟩
        case round =>
          obtain ⟨rfl, rfl⟩ := hrel
          go_wp2_with fail
          clear ka
          obtain ⟨wo, rfl⟩ : ∃ wo : World, wo = wr := ⟨_, rfl⟩
          go_loopw [8, 9, 10, 11] (fun i _ _ _ wr => ∃ j : Nat, j ≤ dx.length ∧ i = .int .i64 j ∧ Box1 w wr (.mk 5 nx sx lax lcx [] dax dcx dx) ∧ FieldsOf (deep + 1) dx j) (fun i _ _ _ _ => dx.length - (intOf i).toNat)
          case atStart => exact ⟨0, by omega, rfl, HB.out, by simp [FieldsOf]⟩
          case round =>
            clear HB b1
            obtain ⟨j, hj, rfl, ⟨hbel, qa⟩, heq⟩ := hrel
            have HH := Lib.hid heq
            have QA := Lib.hid qa
            have ka : ∀ o, wr.cell? ⟨w.heap.size, o, none⟩ = (#[.int .i64 5, .int .i64 nx, .string sx, .slice lax 0 lcx, .slice dax dx.length dcx] : Array Value)[o]? := row_cells qa
            clear heq qa
            by_cases h1 : j < dx.length
            · obtain ⟨b, o, f1, k1, n1, s1, la1, lc1, l1, da1, dc1, d1, rfl, hx, hix, x0, x1, x2, x3, x4, x5⟩ := (HIN.out.parts.2.then_ hbel).six h1
              have hfs : f1.size ≤ 140737488351232 := SD.out _ (List.mem_of_getElem? hx)
              have H := Lib.hid (IHD.out _ (List.mem_of_getElem? hx))
              have hx2 : (dx.map fun f => (f.1, f.2.val))[j]? = some (f1, (T.mk k1 n1 s1 la1 lc1 l1 da1 dc1 d1).val) := by rw [List.getElem?_map, hx]; rfl
              have HT2 := Lib.hid (rightD_step (deep := deep + 1) hx2 ((dx.take j).map fun f => f.1.data.toList))
              have HX := Lib.hid hx
              have hlb : b < wr.heap.size := cell_lt x0
              clear hx hx2
              simp only at H HT2
              rw [may_done] at HT2
              go_wp2_with fail
              refine (refName_any f1 _ hfs (HT.out.then_ hbel)).mono ?_
              rintro e w2 ⟨rfl, b2⟩
              replace QA := Lib.hid (row_then QA.out b2)
              replace hbel := below_then hbel b2
              have XC := Lib.hid (And.intro x0 (And.intro x1 (And.intro x2 (And.intro x3 (And.intro x4 x5)))))
              clear ka x0 x1 x2 x3 x4 x5
              go_wp2_with fail
              go_loopw [9, 10] (fun m i wr => ∃ k : Nat, k ≤ j ∧ m = .bool (mayV f1 dx k) ∧ i = .int .i64 k ∧ Below w2.heap.size w2 wr) (fun _ i _ => j - (intOf i).toNat)
              case atStart => exact ⟨0, by omega, by rw [may_zero], rfl, Below.refl _ _⟩
              case round =>
                obtain ⟨k, hk, rfl, rfl, b3⟩ := hrel
                replace QA := Lib.hid (row_then QA.out b3)
                replace hbel := below_then hbel b3
                have b23 := below_then b2 b3
                have hix2 := hix.then_ b23
                have ka : ∀ i, wr.cell? ⟨w.heap.size, i, none⟩ = (#[.int .i64 5, .int .i64 nx, .string sx, .slice lax 0 lcx, .slice (some ⟨b, o, none⟩) dx.length dcx] : Array Value)[i]? := row_cells QA.out
                have y0 := (b23.cell hlb).trans XC.out.1
                by_cases hlt : k < j
                · obtain ⟨b', o', f2, k2, n2, s2, la2, lc2, l2, da2, dc2, d2, hbo, hx2, -, z0, -, -, -, -, -⟩ := (HIN.out.parts.2.then_ hbel).six (i := k) (by omega)
                  simp only [Option.some.injEq, Addr.mk.injEq] at hbo
                  obtain ⟨rfl, rfl, -⟩ := hbo
                  have hkd : k < dx.length := by omega
                  have HM := Lib.hid (may_step (f := f1) hx2)
                  clear hx2
                  by_cases hm : mayV f1 dx k = true
                  · have HMM := Lib.hid hm
                    go_wp2_with fail
                    go_quiet (fail)
                    go_wp2_with fail
                    go_roundw
                    case rel => exact ⟨k + 1, by omega, by rw [HM.out, HMM.out, Bool.true_and], by go_num, below_drewN b3 _⟩
                    case measure => simp [intOf]; omega
                  · have hm2 : mayV f1 dx k = false := by simpa using hm
                    have HMM := Lib.hid hm2
                    clear hm
                    go_wp2_with fail
                    go_quiet (fail)
                    go_wp2_with fail
                    go_roundw
                    case rel => exact ⟨k + 1, by omega, by rw [HM.out, HMM.out, Bool.false_and], by go_num, below_drewN b3 _⟩
                    case measure => simp [intOf]; omega
                · have hkj : k = j := by omega
                  subst hkj
                  by_cases hm : mayV f1 dx k = true
                  · have HMM := Lib.hid hm
                    have y1 := (b23.cell (cell_lt XC.out.2.1)).trans XC.out.2.1
                    have y2 := (b23.cell (cell_lt XC.out.2.2.1)).trans XC.out.2.2.1
                    have y3 := (b23.cell (cell_lt XC.out.2.2.2.1)).trans XC.out.2.2.2.1
                    have y4 := (b23.cell (cell_lt XC.out.2.2.2.2.1)).trans XC.out.2.2.2.2.1
                    have y5 := (b23.cell (cell_lt XC.out.2.2.2.2.2)).trans XC.out.2.2.2.2.2
                    replace HT2 := Lib.hid (HT2.out.trans (by rw [hm, Bool.not_true, if_neg (by simp)]))
                    go_wp2_with (go_at_call 37; refine (H.out _ _ (by omega) (by omega) hix2 (HT.out.then_ hbel)).mono ?_; rintro e w4 ⟨rfl, b4⟩)
                    · go_ret
                      have hne := bne_iff_ne.1 ‹(_ != _) = true›
                      exact ⟨ret_int (by rw [HV.out, HH.out, HT2.out, if_neg hne]), below_then hbel b4⟩
                    · have heq := bne_eq_false_iff_eq.1 ‹(_ != _) = false›
                      go_roundw
                      case rel => exact ⟨k + 1, by omega, by go_num, Box1.then_ ⟨hbel, QA.out⟩ b4, fields_next HX.out HH.out (HT2.out.trans (by rw [if_pos heq]))⟩
                      case measure => simp [intOf]; omega
                  · have hm2 : mayV f1 dx k = false := by simpa using hm
                    replace HT2 := Lib.hid (HT2.out.trans (by rw [hm2, Bool.not_false, if_pos rfl]))
                    clear hm
                    go_wp2_with fail
                    go_ret
                    exact ⟨ret_int (by rw [HV.out, HH.out, HT2.out]), hbel⟩
            · replace HH := Lib.hid (HH.out.trans (rightD_done (by simp; omega) _))
              go_wp2_with fail
              go_ret
              exact ⟨ret_int (by rw [HV.out, HH.out]), hbel⟩
      · have hq2 : (av && fv) = false := by simpa using hq
        replace HV := Lib.hid (show rightV deep v = 10 by rw [HV.out]; simp [hd, hq2])
        rw [hq2] at HP
        clear hq hq2 HQ
        go_enter Tryd.func37, Tryd.ntmps37
        go_wp2_with fail
        refine (HP.out _ (HT.out.then_ (below1 _ _))).mono ?_
        rintro e w1 ⟨rfl, b1⟩
        go_wp2_with fail
        go_ret
        exact ⟨ret_int (by rw [HV.out]), (HB.out.then_ b1).1⟩
  have b5 : ((kx : Int) == 5) = false := by simp [k5]
  have b6 : ((kx : Int) == 6) = false := by simp [k6]
  replace HV := Lib.hid (show rightV deep v = if av && fv then 0 else 10 by rw [HV.out, if_neg (by omega), if_neg k6, if_neg k5])
  by_cases hq : (av && fv) = true
  · have hav : av = true := by cases av <;> simp_all
    have e1 : lx = [] := by simpa [k6] using (HQ.out hav).1
    have e2 : dx = [] := by simpa [k5] using (HQ.out hav).2
    replace HV := Lib.hid (show rightV deep v = 0 by rw [HV.out]; simp [hq])
    rw [hq] at HP
    subst e1 e2
    clear hq hav HQ IHL IHD SD k5 k6
    go_enter Tryd.func37, Tryd.ntmps37
    go_wp2_with fail
    refine (HP.out _ (HT.out.then_ (below1 _ _))).mono ?_
    rintro e w1 ⟨rfl, b1⟩
    replace HB := Lib.hid (HB.out.then_ b1)
    have ka : ∀ o, w1.cell? ⟨w.heap.size, o, none⟩ = (#[.int .i64 kx, .int .i64 nx, .string sx, .slice lax 0 lcx, .slice dax 0 dcx] : Array Value)[o]? := row_cells HB.out.2
    go_wp2_with fail
    go_loopw [6] (fun i wr => i = .int .i64 0 ∧ wr = w1) (fun _ _ => 0)
    case atStart => exact ⟨rfl, rfl⟩
    case round =>
      obtain ⟨rfl, rfl⟩ := hrel
      go_wp2_with fail
      obtain ⟨wo, rfl⟩ : ∃ wo : World, wo = wr := ⟨_, rfl⟩
      go_loopw [8] (fun i wr => i = .int .i64 0 ∧ wr = wo) (fun _ _ => 0)
      case atStart => exact ⟨rfl, rfl⟩
      case round =>
        obtain ⟨rfl, rfl⟩ := hrel
        go_wp2_with fail
        go_ret
        exact ⟨ret_int (by rw [HV.out]), HB.out.1⟩
  · have hq2 : (av && fv) = false := by simpa using hq
    replace HV := Lib.hid (show rightV deep v = 10 by rw [HV.out]; simp [hq2])
    rw [hq2] at HP
    clear hq hq2 HQ k5 k6
    go_enter Tryd.func37, Tryd.ntmps37
    go_wp2_with fail
    refine (HP.out _ (HT.out.then_ (below1 _ _))).mono ?_
    rintro e w1 ⟨rfl, b1⟩
    go_wp2_with fail
    go_ret
    exact ⟨ret_int (by rw [HV.out]), (HB.out.then_ b1).1⟩

/-- The document's Right. -/
theorem refRight_any (t : T) (ok : t.ok) (w : World) (hin : t.In w) (hT : Tabs w) : Calls Tryd.prog 27 #[t.arg] w fun e w' => e = .returned (.int .i64 (rightOf t.val)) ∧ Below w.heap.size w w' := by
  have HS := Lib.hid (fun w h => refSize_any t ok w h)
  have HR := Lib.hid (walk_any t ok)
  obtain ⟨kx, nx, sx, lax, lcx, lx, dax, dcx, dx⟩ := t
  show Calls _ _ #[.agg #[.int .i64 kx, .int .i64 nx, .string sx, .slice lax lx.length lcx, .slice dax dx.length dcx]] _ _
  clear ok
  go_enter Tryd.func27, Tryd.ntmps27
  go_wp2_with (first
    | (go_at_call 36; refine (HS.out _ (hin.then_ (below1 _ _))).mono ?_; rintro e w1 ⟨rfl, hb1⟩; have hc1 : ∀ b o, b < w.heap.size + 1 → w1.cell? ⟨b, o, none⟩ = _ := fun b o h => hb1.cell (p := ⟨b, o, none⟩) (by simpa using h); have hb01 : Below w.heap.size w w1 := below_then (below1 _ _) hb1)
    | (go_at_call 37; refine (HR.out _ _ (by omega) (by omega) (by exact hin.then_ hb01) (by exact hT.then_ hb01)).mono ?_; rintro e w2 ⟨rfl, hb2⟩))
  · go_ret
    exact ⟨ret_int (by rw [rightOf, if_pos ‹_›]), hb01⟩
  · go_ret
    exact ⟨ret_int (by rw [rightOf, if_neg (by omega)]), below_then hb01 hb2⟩
end Go.Proofs.YtjhmmkfhbiikdaaDoor
