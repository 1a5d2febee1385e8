/- The contracts of Right and of what it calls: no statement is proved here. The contract of Right: no statement is proved here. No statement is proved here. -/
import Derived.Test.YtcpbdmgkeljkgaaGreatDoorAlone
import Derived.StringKeys
namespace Go.Proofs.YtcpbdmgkeljkgaaGreatDoor
open Go.RowKit
set_option maxRecDepth 100000

set_option maxHeartbeats 4000000 in
theorem fits_any (t : T) (ok : t.ok) (w : World) (hT : Tabs w) : Calls Tryz.prog 29 #[t.arg] w fun e w' => e = .returned (.bool (fitsV t.val)) ∧ Below w.heap.size w w' := by
  obtain ⟨kx, nx, sx, lax, lcx, lx, dax, dcx, dx⟩ := t
  show Calls _ _ #[.agg #[.int .i64 kx, .int .i64 nx, .string sx, .slice lax lx.length lcx, .slice dax dx.length dcx]] _ _
  obtain ⟨-, -, -, -, hs, hl1, hl2, hd1, hd2, okl, okd⟩ := ok.parts
  clear okl okd ok
  have HV := fun w h => valid_any sx w (by omega) h
  replace HV := Lib.hid HV
  by_cases k4 : kx = 4
  · subst k4
    go_enter Tryz.func29, Tryz.ntmps29
    go_wp2_with (go_at_call 39; refine (HV.out _ (hT.then_ (below1 _ _))).mono ?_; rintro e w1 ⟨rfl, hb1⟩)
    go_ret
    exact ⟨ret_bool (by simp [T.val_mk, fitsV]), below_then (below1 _ _) hb1⟩
  by_cases k8 : kx = 8
  · subst k8
    go_enter Tryz.func29, Tryz.ntmps29
    go_wp2_with fail
    go_ret
    refine ⟨ret_bool ?_, below1 _ _⟩
    simp only [T.val_mk, fitsV]
    rw [Bool.eq_iff_iff]
    simp
    omega
  by_cases k9 : kx = 9
  · subst k9
    go_enter Tryz.func29, Tryz.ntmps29
    go_wp2_with fail
    all_goals (go_ret; refine ⟨ret_bool ?_, below1 _ _⟩; go_light; simp_all [T.val_mk, fitsV])
  have b4 : ((kx : Int) == 4) = false := by simp [k4]
  have b8 : ((kx : Int) == 8) = false := by simp [k8]
  have b9 : ((kx : Int) == 9) = false := by simp [k9]
  have HW := Lib.hid (show fitsV (T.mk kx nx sx lax lcx lx dax dcx dx).val = (decide (1 ≤ kx) && decide (kx ≤ 11)) by rw [T.val_mk, fitsV, if_neg k4, if_neg k8, if_neg k9])
  clear k4 k8 k9
  go_enter Tryz.func29, Tryz.ntmps29
  go_wp2_with fail
  all_goals (go_ret; refine ⟨ret_bool ?_, below1 _ _⟩; rw [HW.out]; clear HW; go_light; first | (simp_all; done) | (simp_all; omega))

mutual
/-- What is wrong first with a value that is so deep. -/
def rightV (deep : Int) : V → Int
  | .mk k n s l d =>
    if (k = 5 ∨ k = 6) ∧ 20 < deep then 12 else
    if aloneV (.mk k n s l d) && fitsV (.mk k n s l d) then (if k = 6 then rightL (deep + 1) l else if k = 5 then rightD (deep + 1) [] d else 0) else 10
def rightL (deep : Int) : List V → Int
  | [] => 0
  | x :: r => if rightV deep x = 0 then rightL deep r else rightV deep x
def rightD (deep : Int) (ahead : List (List UInt8)) : List (ByteArray × V) → Int
  | [] => 0
  | (s, x) :: r => if ahead.contains s.data.toList || !nameOk s then 11 else if rightV deep x = 0 then rightD deep (ahead ++ [s.data.toList]) r else rightV deep x
end
theorem rightL_step {deep : Int} {l : List V} {k : Nat} {x : V} (hx : l[k]? = some x) : rightL deep (l.drop k) = if rightV deep x = 0 then rightL deep (l.drop (k + 1)) else rightV deep x := by
  obtain ⟨h1, rfl⟩ := List.getElem?_eq_some_iff.1 hx
  rw [List.drop_eq_getElem_cons h1, rightL]
theorem rightL_done {deep : Int} {l : List V} {k : Nat} (h : l.length ≤ k) : rightL deep (l.drop k) = 0 := by rw [List.drop_eq_nil_of_le h, rightL]

def RightAt (t : T) : Prop := ∀ (deep : Int) (w : World), 0 ≤ deep → deep ≤ 100 → t.In w → Tabs w →
    Calls Tryz.prog 20 #[t.arg, .int .i64 deep] w fun e w' => e = .returned (.int .i64 (rightV deep t.val)) ∧ Below w.heap.size w w'

set_option maxHeartbeats 1000000 in
theorem rightElements_any (la : Option Addr) (ca : Nat) (l : List T) (deep : Int) (w : World) (h0 : 0 ≤ deep) (hn : deep ≤ 100) (ha : InL w la l) (hT : Tabs w) (hl : l.length ≤ 1759218604390) (ih : ∀ x ∈ l, RightAt x) :
    Calls Tryz.prog 30 #[.slice la l.length ca, .int .i64 deep] w fun e w' => e = .returned (.int .i64 (rightL deep (l.map T.val))) ∧ Below w.heap.size w w' := by
  go_enter Tryz.func30, Tryz.ntmps30
  go_wp2_with fail
  go_loopw [6, 7, 10] (fun _ _ i wr => ∃ k : Nat, k ≤ l.length ∧ i = .int .i64 k ∧ Below w.heap.size w wr ∧ rightL deep (l.map T.val) = rightL deep ((l.map T.val).drop k)) (fun _ _ i _ => l.length - (intOf i).toNat)
  case atStart => exact ⟨0, by omega, rfl, Below.refl _ _, by simp⟩
  case round =>
    obtain ⟨k, hk, rfl, hbel, heq⟩ := hrel
    have HH := Lib.hid heq
    clear heq
    by_cases h1 : k < l.length
    · obtain ⟨b, o, kx, nx, sx, lax, lcx, lx, dax, dcx, dx, rfl, hx, hix, x0, x1, x2, x3, x4⟩ := (ha.then_ hbel).five h1
      have H := Lib.hid (ih _ (List.mem_of_getElem? hx))
      have hx2 : (l.map T.val)[k]? = some (T.mk kx nx sx lax lcx lx dax dcx dx).val := by rw [List.getElem?_map, hx]; rfl
      have HT := Lib.hid (rightL_step (deep := deep) hx2)
      clear hx hx2 ih ha
      go_wp2_with (go_at_call 20; refine (H.out _ _ h0 hn (hix.then_ (below1 _ _)) (hT.then_ (below_then hbel (below1 _ _)))).mono ?_; rintro e w1 ⟨rfl, hb1⟩)
      · go_ret
        have hne := bne_iff_ne.1 ‹(_ != _) = true›
        exact ⟨ret_int (by rw [HH.out, HT.out, if_neg hne]), below_then (below_then hbel (below1 _ _)) hb1⟩
      · go_roundw
        case rel => exact ⟨k + 1, by omega, by go_num, below_then (below_then hbel (below1 _ _)) hb1, by rw [HH.out, HT.out, if_pos (bne_eq_false_iff_eq.1 ‹(_ != _) = false›)]⟩
        case measure => simp [intOf]; omega
    · go_wp2_with fail
      go_ret
      exact ⟨ret_int (by rw [HH.out, rightL_done (by simp; omega)]), hbel⟩

theorem rightD_step {deep : Int} {l : List (ByteArray × V)} {k : Nat} {x : ByteArray × V} (hx : l[k]? = some x) (ah : List (List UInt8)) :
    rightD deep ah (l.drop k) = if ah.contains x.1.data.toList || !nameOk x.1 then 11 else if rightV deep x.2 = 0 then rightD deep (ah ++ [x.1.data.toList]) (l.drop (k + 1)) else rightV deep x.2 := by
  obtain ⟨h1, rfl⟩ := List.getElem?_eq_some_iff.1 hx
  rw [List.drop_eq_getElem_cons h1, rightD]
theorem rightD_done {deep : Int} {l : List (ByteArray × V)} {k : Nat} (h : l.length ≤ k) (ah : List (List UInt8)) : rightD deep ah (l.drop k) = 0 := by rw [List.drop_eq_nil_of_le h, rightD]

theorem zero_unit (w : World) : (zeroValue 85).run Tryz.prog w = .ok (.agg #[]) w := by kernel_rfl
theorem law_string : Maps.Keyed Tryz.prog 9 := Maps.string_keyed Tryz.underlying9
/-- The names of the first k fields, as a set. -/
def seen (l : List (ByteArray × T)) (k : Nat) : DataW Unit := Maps.setOf (.agg []) ((l.take k).map fun f => Lit.string f.1.data.toList)
theorem seen_step {l : List (ByteArray × T)} {k : Nat} {x : ByteArray × T} (hx : l[k]? = some x) : seen l (k + 1) = (seen l k).put (.string x.1.data.toList) (.agg []) := by
  unfold seen
  rw [List.take_add_one, hx]
  simp [Maps.setOf_snoc]
theorem has_seen (l : List (ByteArray × T)) (k : Nat) (s : List UInt8) : Maps.has (seen l k) (.string s) = ((l.take k).map fun f => f.1.data.toList).contains s := by
  unfold seen
  rw [Maps.has_setOf _ _ _ (by intro x hx; obtain ⟨f, _, rfl⟩ := List.mem_map.1 hx; trivial)]
  rw [List.any_map, List.contains_eq_any_beq, List.any_map]
  congr 1
  funext f
  exact BEq.comm

theorem grown_below {w w' : World} (h : Below w.heap.size w w') : w.grownBy w' none := ⟨h.os, h.tape, h.output, h.size, fun k hk _ => h.block k hk⟩
def FieldsOf (deep : Int) (l : List (ByteArray × T)) (k : Nat) : Prop := rightD deep [] (l.map fun f => (f.1, f.2.val)) = rightD deep ((l.take k).map fun f => f.1.data.toList) ((l.map fun f => (f.1, f.2.val)).drop k)
theorem mapped {w w1 w2 : World} (h : Below w.heap.size w w1) (g : w1.grownBy w2 (some w.heap.size)) : Below w.heap.size w w2 := h.grown g h.size (by simp)
theorem fields_next {deep : Int} {l : List (ByteArray × T)} {k : Nat} {x : ByteArray × T} (hx : l[k]? = some x) (h : FieldsOf deep l k)
    (hs : rightD deep ((l.take k).map fun f => f.1.data.toList) ((l.map fun f => (f.1, f.2.val)).drop k) = rightD deep (((l.take k).map fun f => f.1.data.toList) ++ [x.1.data.toList]) ((l.map fun f => (f.1, f.2.val)).drop (k + 1))) : FieldsOf deep l (k + 1) := by
  unfold FieldsOf at h ⊢
  rw [h, hs, List.take_add_one, hx]
  simp
set_option maxHeartbeats 1000000 in
theorem rightFields_any (la : Option Addr) (ca : Nat) (l : List (ByteArray × T)) (deep : Int) (w : World) (h0 : 0 ≤ deep) (hn : deep ≤ 100) (ha : InD w la l) (hT : Tabs w) (hl : l.length ≤ 1759218604390) (hok : ∀ x ∈ l, okLen x.1.size) (ih : ∀ x ∈ l, RightAt x.2) :
    Calls Tryz.prog 31 #[.slice la l.length ca, .int .i64 deep] w fun e w' => e = .returned (.int .i64 (rightD deep [] (l.map fun f => (f.1, f.2.val)))) ∧ Below w.heap.size w w' := by
  have hmm := @run_makeMap Tryz.prog
  go_enter Tryz.func31, Tryz.ntmps31
  go_wp2_with fail
  go_loopw [7, 8, 9, 10, 14] (fun _ _ _ _ i wr => ∃ k : Nat, k ≤ l.length ∧ i = .int .i64 k ∧ Below w.heap.size w wr ∧ w.heap.size + 1 ≤ wr.heap.size ∧ wr.ownsMap Tryz.prog 9 unitElem w.heap.size k (seen l k) ∧ FieldsOf deep l k) (fun _ _ _ _ i _ => l.length - (intOf i).toNat)
  case atStart => exact ⟨0, by omega, rfl, below1 _ _, by simp, World.ownsMap_made _ _ _ _, by simp [FieldsOf]⟩
  case round =>
    obtain ⟨k, hk, rfl, hbel, hsz, hown, heq⟩ := hrel
    have HH := Lib.hid heq
    clear heq hmm
    by_cases h1 : k < l.length
    · obtain ⟨b, o, fx, kx, nx, sx, lax, lcx, lx, dax, dcx, dx, rfl, hx, hix, x0, x1, x2, x3, x4, x5⟩ := (ha.then_ hbel).six h1
      have hfs : fx.size ≤ 140737488351232 := hok _ (List.mem_of_getElem? hx)
      have hkey : keyOf Tryz.prog 9 (.string fx) = some (.string fx.data.toList) := WideMaps.keyOf_string_mk Tryz.underlying9 (by unfold maxLen; omega)
      have H := Lib.hid (ih _ (List.mem_of_getElem? hx))
      have hi0 := ha.inn hx
      have HX := Lib.hid hx
      have HN := fun w h => rightName_any fx w hfs h
      replace HN := Lib.hid HN
      have hx2 : (l.map fun f => (f.1, f.2.val))[k]? = some (fx, (T.mk kx nx sx lax lcx lx dax dcx dx).val) := by rw [List.getElem?_map, hx]; rfl
      have HT := Lib.hid (rightD_step (deep := deep) hx2 ((l.take k).map fun f => f.1.data.toList))
      have HS := Lib.hid (seen_step hx)
      clear hx hx2 ih ha hok
      by_cases hc : ((l.take k).map fun f => f.1.data.toList).contains fx.data.toList = true
      · have hhas : Maps.has (seen l k) (.string fx.data.toList) = true := by rw [has_seen]; exact hc
        have HC := Lib.hid hc
        clear hc
        go_wp2_with (at_lookup; refine wpList_lookup_own_unit _ rfl _ _ 84 rfl 9 85 law_string Tryz.underlying84 (zero_unit _) w.heap.size k _ rfl (hown.alloc _) _ _ rfl hkey ?_)
        go_ret
        have HC' := HC.out
        exact ⟨ret_int (by rw [HH.out, HT.out, HC', Bool.true_or, if_pos rfl]), below_then hbel (below2 _ _ _)⟩
      · have hhas : Maps.has (seen l k) (.string fx.data.toList) = false := by rw [has_seen]; simpa using hc
        have HC := Lib.hid hc
        clear hc
        by_cases hnm : nameOk fx = true
        · have hnm2 : (!nameOk fx) = false := by simp [hnm]
          have HNM := Lib.hid hnm
          clear hnm
          go_wp2_with (first
            | (at_lookup; refine wpList_lookup_own_unit _ rfl _ _ 84 rfl 9 85 law_string Tryz.underlying84 (zero_unit _) w.heap.size k _ rfl (hown.alloc _) _ _ rfl hkey ?_)
            | (go_at_call 40; refine (HN.out _ (hT.then_ (below_then hbel (below2 _ _ _)))).mono ?_; rintro e w1 ⟨rfl, hb1⟩; have hc1 : ∀ b o, b < wr.heap.size + 2 → w1.cell? ⟨b, o, none⟩ = _ := fun b o h => hb1.cell (p := ⟨b, o, none⟩) (by simpa using h); have hz1 : wr.heap.size + 2 ≤ w1.heap.size := (by have := hb1.size; simpa using this); have hb01 : Below w.heap.size w w1 := below_then (below_then hbel (below2 _ _ _)) hb1)
            | (at_mapUpdate; refine wpList_mapUpdate_own _ rfl _ _ _ 84 rfl 9 85 law_string Tryz.underlying84 (unitElem (H := Unit)) w.heap.size k _ rfl (((hown.alloc _).alloc _).kept (grown_below hb1) (by simp)) (by unfold maxLen; omega) _ _ _ rfl rfl hkey _ [] unitElem_mk ?_; intro w2 hown2 hgrow2; have d1 : w2.cell? ⟨wr.heap.size, 1, none⟩ = some (.int .i64 kx) := hgrow2.cell (by rw [hc1 _ _ (by omega)]; simp [go_sem]) (by simp; omega); have d2 : w2.cell? ⟨wr.heap.size, 2, none⟩ = some (.int .i64 nx) := hgrow2.cell (by rw [hc1 _ _ (by omega)]; simp [go_sem]) (by simp; omega); have d3 : w2.cell? ⟨wr.heap.size, 3, none⟩ = some (.string sx) := hgrow2.cell (by rw [hc1 _ _ (by omega)]; simp [go_sem]) (by simp; omega); have d4 : w2.cell? ⟨wr.heap.size, 4, none⟩ = some (.slice lax lx.length lcx) := hgrow2.cell (by rw [hc1 _ _ (by omega)]; simp [go_sem]) (by simp; omega); have d5 : w2.cell? ⟨wr.heap.size, 5, none⟩ = some (.slice dax dx.length dcx) := hgrow2.cell (by rw [hc1 _ _ (by omega)]; simp [go_sem]) (by simp; omega))
            | (go_at_call 20; refine (H.out _ _ h0 hn ?_ ?_).mono ?_; (exact T.In.then_ hi0 (mapped hb01 hgrow2)); (exact hT.then_ (mapped hb01 hgrow2)); rintro e w3 ⟨rfl, hb3⟩))
          · go_ret
            have hne := bne_iff_ne.1 ‹(_ != _) = true›
            have HC' := HC.out
            have HN' := HNM.out
            exact ⟨ret_int (by rw [HH.out, HT.out, if_neg (by rw [HN']; simpa using HC'), if_neg hne]), below_then (mapped hb01 hgrow2) hb3⟩
          · have heq := bne_eq_false_iff_eq.1 ‹(_ != _) = false›
            have HC' := HC.out
            have HN' := HNM.out
            go_roundw
            case rel => exact ⟨k + 1, by omega, by go_num, below_then (mapped hb01 hgrow2) hb3, by have := hgrow2.size; have := hb3.size; omega, by rw [HS.out]; exact hown2.kept (grown_below hb3) (by simp), fields_next HX.out HH.out (HT.out.trans (by rw [if_neg (by rw [HN']; simpa using HC'), if_pos heq]))⟩
            case measure => simp [intOf]; omega
        · have hnm2 : (!nameOk fx) = true := by simp [hnm]
          clear hnm
          have HNM := Lib.hid hnm2
          go_wp2_with (first
            | (at_lookup; refine wpList_lookup_own_unit _ rfl _ _ 84 rfl 9 85 law_string Tryz.underlying84 (zero_unit _) w.heap.size k _ rfl (hown.alloc _) _ _ rfl hkey ?_)
            | (go_at_call 40; refine (HN.out _ (hT.then_ (below_then hbel (below2 _ _ _)))).mono ?_; rintro e w1 ⟨rfl, hb1⟩))
          go_ret
          have HN' := HNM.out
          exact ⟨ret_int (by rw [HH.out, HT.out, HN', Bool.or_true, if_pos rfl]), below_then (below_then hbel (below2 _ _ _)) hb1⟩
    · go_wp2_with fail
      go_ret
      exact ⟨ret_int (by rw [HH.out, rightD_done (by simp; omega)]), hbel⟩
end Go.Proofs.YtcpbdmgkeljkgaaGreatDoor
namespace Go.Proofs.YtcpbdmgkeljkgaaGreatDoor
open Go.RowKit
set_option maxRecDepth 100000

set_option maxHeartbeats 4000000 in
theorem rightAt_any (t : T) : t.ok → RightAt t := by
  induction t using T.ind with
  | h kx nx sx lax lcx lx dax dcx dx ihl ihd =>
  intro ok deep w h0 hn hin hT
  have HA := fun w => alone_any (.mk kx nx sx lax lcx lx dax dcx dx) ok w
  have HF := fun w h => fits_any (.mk kx nx sx lax lcx lx dax dcx dx) ok w h
  replace HA := Lib.hid HA
  replace HF := Lib.hid HF
  have HV := Lib.hid (show rightV deep (T.mk kx nx sx lax lcx lx dax dcx dx).val = _ by rw [T.val_mk, rightV, ← T.val_mk kx nx sx lax lcx lx dax dcx dx])
  obtain ⟨-, -, -, -, hs, hl1, hl2, hd1, hd2, okl, okd⟩ := ok.parts
  show Calls _ _ #[.agg #[.int .i64 kx, .int .i64 nx, .string sx, .slice lax lx.length lcx, .slice dax dx.length dcx], .int .i64 deep] _ _
  have HL : deep + 1 ≤ 100 → ∀ w1, Below w.heap.size w w1 → Calls Tryz.prog 30 #[.slice lax lx.length lcx, .int .i64 (deep + 1)] w1 fun e w' => e = .returned (.int .i64 (rightL (deep + 1) (lx.map T.val))) ∧ Below w1.heap.size w1 w' := fun hd w1 hw =>
    rightElements_any _ _ _ _ _ (by omega) hd (hin.parts.1.then_ hw) (hT.then_ hw) (by omega) fun x hx => ihl x hx (okl x hx)
  have HD : deep + 1 ≤ 100 → ∀ w1, Below w.heap.size w w1 → Calls Tryz.prog 31 #[.slice dax dx.length dcx, .int .i64 (deep + 1)] w1 fun e w' => e = .returned (.int .i64 (rightD (deep + 1) [] (dx.map fun f => (f.1, f.2.val)))) ∧ Below w1.heap.size w1 w' := fun hd w1 hw =>
    rightFields_any _ _ _ _ _ (by omega) hd (hin.parts.2.then_ hw) (hT.then_ hw) (by omega) (fun x hx => (okd x hx).1) fun x hx => ihd x hx (okd x hx).2
  replace HL := Lib.hid HL
  replace HD := Lib.hid HD
  clear ihl ihd okl okd hin ok hl1 hl2 hd1 hd2
  generalize (T.mk kx nx sx lax lcx lx dax dcx dx).val = v at HA HF HV ⊢
  generalize hA : aloneV v = av at HA HV
  generalize hF : fitsV v = fv at HF HV
  clear hA hF
  have e0 : (deep : Int) + 1 = deep + 1 := rfl
  clear e0
  by_cases k6 : kx = 6
  · subst k6
    by_cases hd : 20 < deep
    · replace HV := Lib.hid (show rightV deep v = 12 by rw [HV.out]; simp [hd])
      go_enter Tryz.func20, Tryz.ntmps20
      go_wp2_with fail
      go_ret
      exact ⟨ret_int (by rw [HV.out]), below1 _ _⟩
    · cases av
      · replace HV := Lib.hid (show rightV deep v = 10 by rw [HV.out]; simp [hd])
        go_enter Tryz.func20, Tryz.ntmps20
        go_wp2_with (go_at_call 28; refine (HA.out _).mono ?_; rintro e w1 ⟨rfl, hb1⟩; have hc1 : ∀ b o, b < w.heap.size + 1 → w1.cell? ⟨b, o, none⟩ = _ := fun b o h => hb1.cell (p := ⟨b, o, none⟩) (by simpa using h); have hz1 : w.heap.size + 1 ≤ w1.heap.size := (by have := hb1.size; simpa using this); have hb01 : Below w.heap.size w w1 := below_then (below1 _ _) hb1)
        go_ret
        exact ⟨ret_int (by rw [HV.out]), hb01⟩
      · cases fv
        · replace HV := Lib.hid (show rightV deep v = 10 by rw [HV.out]; simp [hd])
          go_enter Tryz.func20, Tryz.ntmps20
          go_wp2_with (first | (go_at_call 28; refine (HA.out _).mono ?_; rintro e w1 ⟨rfl, hb1⟩; have hc1 : ∀ b o, b < w.heap.size + 1 → w1.cell? ⟨b, o, none⟩ = _ := fun b o h => hb1.cell (p := ⟨b, o, none⟩) (by simpa using h); have hz1 : w.heap.size + 1 ≤ w1.heap.size := (by have := hb1.size; simpa using this); have hb01 : Below w.heap.size w w1 := below_then (below1 _ _) hb1) | (go_at_call 29; refine (HF.out _ (hT.then_ hb01)).mono ?_; rintro e w2 ⟨rfl, hb2⟩; have hc2 : ∀ b o, b < w.heap.size + 1 → w2.cell? ⟨b, o, none⟩ = _ := fun b o h => hb2.cell (p := ⟨b, o, none⟩) (by simp; omega); have hb02 : Below w.heap.size w w2 := below_then hb01 hb2))
          go_ret
          exact ⟨ret_int (by rw [HV.out]), hb02⟩
        · replace HV := Lib.hid (show rightV deep v = rightL (deep + 1) (lx.map T.val) by rw [HV.out]; simp [hd])
          go_enter Tryz.func20, Tryz.ntmps20
          go_wp2_with (first | (go_at_call 28; refine (HA.out _).mono ?_; rintro e w1 ⟨rfl, hb1⟩; have hc1 : ∀ b o, b < w.heap.size + 1 → w1.cell? ⟨b, o, none⟩ = _ := fun b o h => hb1.cell (p := ⟨b, o, none⟩) (by simpa using h); have hz1 : w.heap.size + 1 ≤ w1.heap.size := (by have := hb1.size; simpa using this); have hb01 : Below w.heap.size w w1 := below_then (below1 _ _) hb1) | (go_at_call 29; refine (HF.out _ (hT.then_ hb01)).mono ?_; rintro e w2 ⟨rfl, hb2⟩; have hc2 : ∀ b o, b < w.heap.size + 1 → w2.cell? ⟨b, o, none⟩ = _ := fun b o h => hb2.cell (p := ⟨b, o, none⟩) (by simp; omega); have hb02 : Below w.heap.size w w2 := below_then hb01 hb2) | (go_at_call 30; refine (HL.out (by omega) _ hb02).mono ?_; rintro e w3 ⟨rfl, hb3⟩))
          go_ret
          exact ⟨ret_int (by rw [HV.out]), below_then hb02 hb3⟩
  by_cases k5 : kx = 5
  · subst k5
    by_cases hd : 20 < deep
    · replace HV := Lib.hid (show rightV deep v = 12 by rw [HV.out]; simp [hd])
      go_enter Tryz.func20, Tryz.ntmps20
      go_wp2_with fail
      go_ret
      exact ⟨ret_int (by rw [HV.out]), below1 _ _⟩
    · cases av
      · replace HV := Lib.hid (show rightV deep v = 10 by rw [HV.out]; simp [hd])
        go_enter Tryz.func20, Tryz.ntmps20
        go_wp2_with (go_at_call 28; refine (HA.out _).mono ?_; rintro e w1 ⟨rfl, hb1⟩; have hc1 : ∀ b o, b < w.heap.size + 1 → w1.cell? ⟨b, o, none⟩ = _ := fun b o h => hb1.cell (p := ⟨b, o, none⟩) (by simpa using h); have hz1 : w.heap.size + 1 ≤ w1.heap.size := (by have := hb1.size; simpa using this); have hb01 : Below w.heap.size w w1 := below_then (below1 _ _) hb1)
        go_ret
        exact ⟨ret_int (by rw [HV.out]), hb01⟩
      · cases fv
        · replace HV := Lib.hid (show rightV deep v = 10 by rw [HV.out]; simp [hd])
          go_enter Tryz.func20, Tryz.ntmps20
          go_wp2_with (first | (go_at_call 28; refine (HA.out _).mono ?_; rintro e w1 ⟨rfl, hb1⟩; have hc1 : ∀ b o, b < w.heap.size + 1 → w1.cell? ⟨b, o, none⟩ = _ := fun b o h => hb1.cell (p := ⟨b, o, none⟩) (by simpa using h); have hz1 : w.heap.size + 1 ≤ w1.heap.size := (by have := hb1.size; simpa using this); have hb01 : Below w.heap.size w w1 := below_then (below1 _ _) hb1) | (go_at_call 29; refine (HF.out _ (hT.then_ hb01)).mono ?_; rintro e w2 ⟨rfl, hb2⟩; have hc2 : ∀ b o, b < w.heap.size + 1 → w2.cell? ⟨b, o, none⟩ = _ := fun b o h => hb2.cell (p := ⟨b, o, none⟩) (by simp; omega); have hb02 : Below w.heap.size w w2 := below_then hb01 hb2))
          go_ret
          exact ⟨ret_int (by rw [HV.out]), hb02⟩
        · replace HV := Lib.hid (show rightV deep v = rightD (deep + 1) [] (dx.map fun f => (f.1, f.2.val)) by rw [HV.out]; simp [hd])
          go_enter Tryz.func20, Tryz.ntmps20
          go_wp2_with (first | (go_at_call 28; refine (HA.out _).mono ?_; rintro e w1 ⟨rfl, hb1⟩; have hc1 : ∀ b o, b < w.heap.size + 1 → w1.cell? ⟨b, o, none⟩ = _ := fun b o h => hb1.cell (p := ⟨b, o, none⟩) (by simpa using h); have hz1 : w.heap.size + 1 ≤ w1.heap.size := (by have := hb1.size; simpa using this); have hb01 : Below w.heap.size w w1 := below_then (below1 _ _) hb1) | (go_at_call 29; refine (HF.out _ (hT.then_ hb01)).mono ?_; rintro e w2 ⟨rfl, hb2⟩; have hc2 : ∀ b o, b < w.heap.size + 1 → w2.cell? ⟨b, o, none⟩ = _ := fun b o h => hb2.cell (p := ⟨b, o, none⟩) (by simp; omega); have hb02 : Below w.heap.size w w2 := below_then hb01 hb2) | (go_at_call 31; refine (HD.out (by omega) _ hb02).mono ?_; rintro e w3 ⟨rfl, hb3⟩))
          go_ret
          exact ⟨ret_int (by rw [HV.out]), below_then hb02 hb3⟩
  have b5 : ((kx : Int) == 5) = false := by simp [k5]
  have b6 : ((kx : Int) == 6) = false := by simp [k6]
  replace HV := Lib.hid (show rightV deep v = if av && fv then 0 else 10 by rw [HV.out, if_neg (by omega), if_neg k6, if_neg k5])
  clear k5 k6
  cases av
  · go_enter Tryz.func20, Tryz.ntmps20
    go_wp2_with (go_at_call 28; refine (HA.out _).mono ?_; rintro e w1 ⟨rfl, hb1⟩; have hc1 : ∀ b o, b < w.heap.size + 1 → w1.cell? ⟨b, o, none⟩ = _ := fun b o h => hb1.cell (p := ⟨b, o, none⟩) (by simpa using h); have hz1 : w.heap.size + 1 ≤ w1.heap.size := (by have := hb1.size; simpa using this); have hb01 : Below w.heap.size w w1 := below_then (below1 _ _) hb1)
    go_ret
    exact ⟨ret_int (by rw [HV.out]; simp), hb01⟩
  · cases fv
    · go_enter Tryz.func20, Tryz.ntmps20
      go_wp2_with (first | (go_at_call 28; refine (HA.out _).mono ?_; rintro e w1 ⟨rfl, hb1⟩; have hc1 : ∀ b o, b < w.heap.size + 1 → w1.cell? ⟨b, o, none⟩ = _ := fun b o h => hb1.cell (p := ⟨b, o, none⟩) (by simpa using h); have hz1 : w.heap.size + 1 ≤ w1.heap.size := (by have := hb1.size; simpa using this); have hb01 : Below w.heap.size w w1 := below_then (below1 _ _) hb1) | (go_at_call 29; refine (HF.out _ (hT.then_ hb01)).mono ?_; rintro e w2 ⟨rfl, hb2⟩; have hc2 : ∀ b o, b < w.heap.size + 1 → w2.cell? ⟨b, o, none⟩ = _ := fun b o h => hb2.cell (p := ⟨b, o, none⟩) (by simp; omega); have hb02 : Below w.heap.size w w2 := below_then hb01 hb2))
      go_ret
      exact ⟨ret_int (by rw [HV.out]; simp), hb02⟩
    · go_enter Tryz.func20, Tryz.ntmps20
      go_wp2_with (first | (go_at_call 28; refine (HA.out _).mono ?_; rintro e w1 ⟨rfl, hb1⟩; have hc1 : ∀ b o, b < w.heap.size + 1 → w1.cell? ⟨b, o, none⟩ = _ := fun b o h => hb1.cell (p := ⟨b, o, none⟩) (by simpa using h); have hz1 : w.heap.size + 1 ≤ w1.heap.size := (by have := hb1.size; simpa using this); have hb01 : Below w.heap.size w w1 := below_then (below1 _ _) hb1) | (go_at_call 29; refine (HF.out _ (hT.then_ hb01)).mono ?_; rintro e w2 ⟨rfl, hb2⟩; have hc2 : ∀ b o, b < w.heap.size + 1 → w2.cell? ⟨b, o, none⟩ = _ := fun b o h => hb2.cell (p := ⟨b, o, none⟩) (by simp; omega); have hb02 : Below w.heap.size w w2 := below_then hb01 hb2))
      go_ret
      exact ⟨ret_int (by rw [HV.out]; simp), hb02⟩

/-- Right. -/
def rightOf (v : V) : Int := if 65536 < sizeV v then 3 else rightV 1 v
theorem right_any (t : T) (ok : t.ok) (w : World) (hin : t.In w) (hT : Tabs w) : Calls Tryz.prog 15 #[t.arg] w fun e w' => e = .returned (.int .i64 (rightOf t.val)) ∧ Below w.heap.size w w' := by
  have HS := fun w h => size_any t ok w h
  have HR := rightAt_any t ok
  replace HS := Lib.hid HS
  replace HR := Lib.hid HR
  obtain ⟨kx, nx, sx, lax, lcx, lx, dax, dcx, dx⟩ := t
  show Calls _ _ #[.agg #[.int .i64 kx, .int .i64 nx, .string sx, .slice lax lx.length lcx, .slice dax dx.length dcx]] _ _
  clear ok
  go_enter Tryz.func15, Tryz.ntmps15
  go_wp2_with (first
    | (go_at_call 19; refine (HS.out _ (hin.then_ (below1 _ _))).mono ?_; rintro e w1 ⟨rfl, hb1⟩; have hc1 : ∀ b o, b < w.heap.size + 1 → w1.cell? ⟨b, o, none⟩ = _ := fun b o h => hb1.cell (p := ⟨b, o, none⟩) (by simpa using h); have hb01 : Below w.heap.size w w1 := below_then (below1 _ _) hb1)
    | (go_at_call 20; refine (HR.out _ _ (by omega) (by omega) (by exact hin.then_ hb01) (by exact hT.then_ hb01)).mono ?_; rintro e w2 ⟨rfl, hb2⟩))
  · go_ret
    exact ⟨ret_int (by rw [rightOf, if_pos ‹_›]), hb01⟩
  · go_ret
    exact ⟨ret_int (by rw [rightOf, if_neg (by omega)]), below_then hb01 hb2⟩
end Go.Proofs.YtcpbdmgkeljkgaaGreatDoor
