/- The contract of the document's own Compare: no statement is proved here. -/
import Derived.Test.YtlmlehjfockkpaaDoorOrder
namespace Go.Proofs.YtlmlehjfockkpaaDoor
open Go.RowKit
set_option maxRecDepth 100000

theorem refInts_any (a b : Int) (w : World) : Calls Tryd.prog 57 #[.int .i64 a, .int .i64 b] w fun e w' => e = .returned (.int .i64 (cmpI a b)) ∧ w = w' := by
  unfold cmpI
  by_cases h : a < b
  · go_enter Tryd.func57, Tryd.ntmps57
    go_wp2
    go_ret
    simp
  · by_cases h2 : b < a
    · go_enter Tryd.func57, Tryd.ntmps57
      go_wp2
      go_ret
      exact ⟨by simp, rfl⟩
    · go_enter Tryd.func57, Tryd.ntmps57
      go_wp2
      go_ret
      exact ⟨by simp, rfl⟩

theorem refTexts_any (a b : ByteArray) (w : World) : Calls Tryd.prog 58 #[.string a, .string b] w fun e w' => e = .returned (.int .i64 (cmpS a b)) ∧ w = w' := by
  unfold cmpS ltS
  go_enter Tryd.func58, Tryd.ntmps58
  go_wp2
  all_goals (go_ret; exact ⟨by simp_all, rfl⟩)

def RefCmpAt (a : T) : Prop := ∀ (b : T) (w : World), a.ok → b.ok → a.In w → b.In w → Calls Tryd.prog 22 #[a.arg, b.arg] w fun e w' => e = .returned (.int .i64 (cmpV a.val b.val)) ∧ Below w.heap.size w w'
set_option maxHeartbeats 4000000 in
theorem refCompare_any (a : T) : RefCmpAt a := by
  induction a using T.ind with
  | h kx nx sx lax lcx lx dax dcx dx ihl ihd =>
  intro b w oka okb ha hb
  obtain ⟨ky, ny, sy, lay, lcy, ly, day, dcy, dy⟩ := b
  show Calls _ _ #[.agg #[.int .i64 kx, .int .i64 nx, .string sx, .slice lax lx.length lcx, .slice dax dx.length dcx], .agg #[.int .i64 ky, .int .i64 ny, .string sy, .slice lay ly.length lcy, .slice day dy.length dcy]] _ _
  obtain ⟨-, -, -, -, -, ol1, ol2, od1, od2, ol3, od3⟩ := oka.parts
  obtain ⟨-, -, -, -, -, pl1, pl2, pd1, pd2, pl3, pd3⟩ := okb.parts
  have HV := Lib.hid (show cmpV (T.mk kx nx sx lax lcx lx dax dcx dx).val (T.mk ky ny sy lay lcy ly day dcy dy).val = _ by rw [T.val_mk, T.val_mk, cmpV])
  obtain ⟨ha1, ha2⟩ := ha.parts
  obtain ⟨hb1, hb2⟩ := hb.parts
  clear oka okb ha hb
  have HA1 := Lib.hid ha1
  have HB1 := Lib.hid hb1
  have HA2 := Lib.hid ha2
  have HB2 := Lib.hid hb2
  have OL3 := Lib.hid ol3
  have OD3 := Lib.hid od3
  have PL3 := Lib.hid pl3
  have PD3 := Lib.hid pd3
  have IHL := Lib.hid ihl
  have IHD := Lib.hid ihd
  clear ha1 ha2 hb1 hb2 ol3 od3 pl3 pd3 ihl ihd
  by_cases hk : kx = ky
  · subst hk
    by_cases k3 : kx = 3
    · subst k3
      go_enter Tryd.func22, Tryd.ntmps22
      go_wp2_with (go_at_call 57; refine (refInts_any _ _ _).mono ?_; rintro e w' ⟨rfl, rfl⟩)
      go_ret
      exact ⟨ret_int (by rw [HV.out]; simp), below2 _ _ _⟩
    by_cases k9 : kx = 9
    · subst k9
      go_enter Tryd.func22, Tryd.ntmps22
      go_wp2_with (go_at_call 57; refine (refInts_any _ _ _).mono ?_; rintro e w' ⟨rfl, rfl⟩)
      go_ret
      exact ⟨ret_int (by rw [HV.out]; simp), below2 _ _ _⟩
    by_cases k10 : kx = 10
    · subst k10
      go_enter Tryd.func22, Tryd.ntmps22
      go_wp2_with (go_at_call 57; refine (refInts_any _ _ _).mono ?_; rintro e w' ⟨rfl, rfl⟩)
      go_ret
      exact ⟨ret_int (by rw [HV.out]; simp), below2 _ _ _⟩
    by_cases k4 : kx = 4
    · subst k4
      go_enter Tryd.func22, Tryd.ntmps22
      go_wp2_with (go_at_call 58; refine (refTexts_any _ _ _).mono ?_; rintro e w' ⟨rfl, rfl⟩)
      go_ret
      exact ⟨ret_int (by rw [HV.out]; simp), below2 _ _ _⟩
    by_cases k7 : kx = 7
    · subst k7
      go_enter Tryd.func22, Tryd.ntmps22
      go_wp2_with (go_at_call 58; refine (refTexts_any _ _ _).mono ?_; rintro e w' ⟨rfl, rfl⟩)
      go_ret
      exact ⟨ret_int (by rw [HV.out]; simp), below2 _ _ _⟩
    by_cases k8 : kx = 8
    · subst k8
      go_enter Tryd.func22, Tryd.ntmps22
      go_wp2_with (go_at_call 58; refine (refTexts_any _ _ _).mono ?_; rintro e w' ⟨rfl, rfl⟩)
      go_ret
      exact ⟨ret_int (by rw [HV.out]; simp), below2 _ _ _⟩
    by_cases k6 : kx = 6
    · subst k6
      replace HV := Lib.hid (show cmpV (T.mk 6 nx sx lax lcx lx dax dcx dx).val (T.mk 6 ny sy lay lcy ly day dcy dy).val = cmpL (lx.map T.val) (ly.map T.val) by rw [HV.out]; simp)
      go_enter Tryd.func22, Tryd.ntmps22
      go_wp2_with fail
      go_loopw [5, 6] (fun i _ wr => ∃ k : Nat, k ≤ lx.length ∧ k ≤ ly.length ∧ i = .int .i64 k ∧ Rel1 w wr (.mk 6 nx sx lax lcx lx dax dcx dx) (.mk 6 ny sy lay lcy ly day dcy dy) ∧ cmpL (lx.map T.val) (ly.map T.val) = cmpL ((lx.map T.val).drop k) ((ly.map T.val).drop k)) (fun i _ _ => lx.length - (intOf i).toNat)
      case atStart => exact ⟨0, by omega, by omega, rfl, ⟨below2 _ _ _, heap_alloc2_old _ _ _, heap_alloc2_new _ _ _⟩, by simp⟩
      case round =>
        obtain ⟨k, hk1, hk2, rfl, ⟨hbel, qa, qb⟩, heq⟩ := hrel
        have QA := Lib.hid qa
        have QB := Lib.hid qb
        have ka : ∀ o, wr.cell? ⟨w.heap.size, o, none⟩ = (#[.int .i64 6, .int .i64 nx, .string sx, .slice lax lx.length lcx, .slice dax dx.length dcx] : Array Value)[o]? := row_cells qa
        have kb : ∀ o, wr.cell? ⟨w.heap.size + 1, o, none⟩ = (#[.int .i64 6, .int .i64 ny, .string sy, .slice lay ly.length lcy, .slice day dy.length dcy] : Array Value)[o]? := row_cells qb
        clear qa qb
        by_cases hlt : k < lx.length ∧ k < ly.length
        · obtain ⟨h1, h2⟩ := hlt
          obtain ⟨bx, ox, k1, n1, s1, la1, lc1, l1, da1, dc1, d1, rfl, hx, hix, x0, x1, x2, x3, x4⟩ := (HA1.out.then_ hbel).five h1
          obtain ⟨by_, oy, k2, n2, t2, la2, lc2, l2', da2, dc2, d2', rfl, hy, hiy, y0, y1, y2, y3, y4⟩ := (HB1.out.then_ hbel).five h2
          have H := Lib.hid (fun w => IHL.out _ (List.mem_of_getElem? hx) _ w (OL3.out _ (List.mem_of_getElem? hx)) (PL3.out _ (List.mem_of_getElem? hy)))
          have HH := Lib.hid (And.intro heq (cmpL_step (l := lx.map T.val) (l' := ly.map T.val) (k := k) (by rw [List.getElem?_map, hx]; rfl) (by rw [List.getElem?_map, hy]; rfl)))
          clear heq hx hy
          go_wp2_with fail
          go_still_tail 10, (by kernel_rfl)
          change wpList _ _ _ _ _ wr.drew
          go_wp2_with (go_at_call 22; refine (H.out wr.drew hix hiy).mono ?_; rintro e w1 ⟨rfl, b0⟩; have b1 : Below wr.heap.size wr w1 := ⟨b0.os, b0.tape, b0.output, b0.size, b0.block⟩; clear b0)
          · go_ret
            obtain ⟨e1, e2⟩ := HH.out
            have hne := bne_iff_ne.1 ‹(_ != _) = true›
            exact ⟨ret_int (by rw [HV.out, e1, e2, if_neg hne]), below_then hbel b1⟩
          · obtain ⟨e1, e2⟩ := HH.out
            go_roundw
            case rel => exact ⟨k + 1, by omega, by omega, by go_num, Rel1.then_ ⟨hbel, QA.out, QB.out⟩ b1, by rw [e1, e2, if_pos (bne_eq_false_iff_eq.1 ‹(_ != _) = false›)]⟩
            case measure => simp [intOf]; omega
        · have HH := Lib.hid (heq.trans (cmpL_end (by simpa using hk1) (by simpa using hk2) (by simpa using hlt)))
          clear heq
          go_wp2_with (go_at_call 57; refine (refInts_any _ _ _).mono ?_; rintro e w' ⟨rfl, rfl⟩)
          all_goals
            go_ret
            exact ⟨ret_int (by rw [HV.out, HH.out]; simp), hbel⟩
    by_cases k5 : kx = 5
    · subst k5
      replace HV := Lib.hid (show cmpV (T.mk 5 nx sx lax lcx lx dax dcx dx).val (T.mk 5 ny sy lay lcy ly day dcy dy).val = cmpD (dx.map fun f => (f.1, f.2.val)) (dy.map fun f => (f.1, f.2.val)) by rw [HV.out]; simp)
      go_enter Tryd.func22, Tryd.ntmps22
      go_wp2_with fail
      go_loopw [7, 8] (fun i _ wr => ∃ k : Nat, k ≤ dx.length ∧ k ≤ dy.length ∧ i = .int .i64 k ∧ Rel1 w wr (.mk 5 nx sx lax lcx lx dax dcx dx) (.mk 5 ny sy lay lcy ly day dcy dy) ∧ cmpD (dx.map fun f => (f.1, f.2.val)) (dy.map fun f => (f.1, f.2.val)) = cmpD ((dx.map fun f => (f.1, f.2.val)).drop k) ((dy.map fun f => (f.1, f.2.val)).drop k)) (fun i _ _ => dx.length - (intOf i).toNat)
      case atStart => exact ⟨0, by omega, by omega, rfl, ⟨below2 _ _ _, heap_alloc2_old _ _ _, heap_alloc2_new _ _ _⟩, by simp⟩
      case round =>
        obtain ⟨k, hk1, hk2, rfl, ⟨hbel, qa, qb⟩, heq⟩ := hrel
        have QA := Lib.hid qa
        have QB := Lib.hid qb
        have ka : ∀ o, wr.cell? ⟨w.heap.size, o, none⟩ = (#[.int .i64 5, .int .i64 nx, .string sx, .slice lax lx.length lcx, .slice dax dx.length dcx] : Array Value)[o]? := row_cells qa
        have kb : ∀ o, wr.cell? ⟨w.heap.size + 1, o, none⟩ = (#[.int .i64 5, .int .i64 ny, .string sy, .slice lay ly.length lcy, .slice day dy.length dcy] : Array Value)[o]? := row_cells qb
        clear qa qb
        by_cases hlt : k < dx.length ∧ k < dy.length
        · obtain ⟨h1, h2⟩ := hlt
          obtain ⟨bx, ox, f1, k1, n1, s1, la1, lc1, l1, da1, dc1, d1, rfl, hx, hix, x0, x1, x2, x3, x4, x5⟩ := (HA2.out.then_ hbel).six h1
          obtain ⟨by_, oy, f2, k2, n2, t2, la2, lc2, l2', da2, dc2, d2', rfl, hy, hiy, y0, y1, y2, y3, y4, y5⟩ := (HB2.out.then_ hbel).six h2
          have H := Lib.hid (fun w => IHD.out _ (List.mem_of_getElem? hx) _ w (OD3.out _ (List.mem_of_getElem? hx)).2 (PD3.out _ (List.mem_of_getElem? hy)).2)
          have HH := Lib.hid (And.intro heq (cmpD_step (l := dx.map fun f => (f.1, f.2.val)) (l' := dy.map fun f => (f.1, f.2.val)) (k := k) (by rw [List.getElem?_map, hx]; rfl) (by rw [List.getElem?_map, hy]; rfl)))
          clear heq hx hy
          simp only at H HH
          have HP := Lib.hid (cmpP_two (f1, (T.mk k1 n1 s1 la1 lc1 l1 da1 dc1 d1).val) (f2, (T.mk k2 n2 t2 la2 lc2 l2' da2 dc2 d2').val))
          unfold cmpP at HP
          simp only at HP
          generalize cmpV (T.mk k1 n1 s1 la1 lc1 l1 da1 dc1 d1).val (T.mk k2 n2 t2 la2 lc2 l2' da2 dc2 d2').val = cv at H HP
          generalize cmpF f1 (T.mk k1 n1 s1 la1 lc1 l1 da1 dc1 d1).val f2 (T.mk k2 n2 t2 la2 lc2 l2' da2 dc2 d2').val = cf at HH HP
          by_cases hc : cmpS f1 f2 = 0
          · have hz : ((cmpS f1 f2 : Int) == 0) = true := by simp [hc]
            have HC := Lib.hid hc
            clear hc
            go_wp2_with fail
            go_still_tail 12, (by kernel_rfl)
            change wpList _ _ _ _ _ wr.drew
            go_wp2_with (go_at_call 58; refine (refTexts_any _ _ _).mono ?_; rintro e w' ⟨rfl, rfl⟩)
            obtain ⟨wq, hwq⟩ : ∃ wq, wr.drew = wq := ⟨_, rfl⟩
            rw [hwq]
            have hcl : ∀ p, wq.cell? p = wr.cell? p := fun p => by rw [← hwq]; rfl
            have ka' : ∀ o, wq.cell? ⟨w.heap.size, o, none⟩ = _ := fun o => (hcl _).trans (ka o)
            have kb' : ∀ o, wq.cell? ⟨w.heap.size + 1, o, none⟩ = _ := fun o => (hcl _).trans (kb o)
            have x1' := (hcl _).trans x1
            have x2' := (hcl _).trans x2
            have x3' := (hcl _).trans x3
            have x4' := (hcl _).trans x4
            have x5' := (hcl _).trans x5
            have y1' := (hcl _).trans y1
            have y2' := (hcl _).trans y2
            have y3' := (hcl _).trans y3
            have y4' := (hcl _).trans y4
            have y5' := (hcl _).trans y5
            have hix' := hix.keep (w' := wq) (fun p _ => hcl _)
            have hiy' := hiy.keep (w' := wq) (fun p _ => hcl _)
            have hbq : Below wr.heap.size wr wq := hwq ▸ (Below.refl _ wr).drew
            clear hcl hwq
            go_still_tail 12, (by kernel_rfl)
            change wpList _ _ _ _ _ wq.drew
            go_wp2_with (go_at_call 22; refine (H.out wq.drew hix' hiy').mono ?_; rintro e w1 ⟨rfl, b0⟩; have b2 : Below wq.heap.size wq w1 := ⟨b0.os, b0.tape, b0.output, b0.size, b0.block⟩; have b1 := below_then hbq b2; clear b0 b2)
            · go_ret
              obtain ⟨e1, e2⟩ := HH.out
              have hne := bne_iff_ne.1 ‹(_ != _) = true›
              have hcf : cf = cv := by rw [HP.out, if_pos HC.out]
              exact ⟨ret_int (by rw [HV.out, e1, e2, hcf, if_neg hne]), below_then hbel b1⟩
            · obtain ⟨e1, e2⟩ := HH.out
              have hcf : cf = cv := by rw [HP.out, if_pos HC.out]
              go_roundw
              case rel => exact ⟨k + 1, by omega, by omega, by go_num, Rel1.then_ ⟨hbel, QA.out, QB.out⟩ b1, by rw [e1, e2, hcf, if_pos (bne_eq_false_iff_eq.1 ‹(_ != _) = false›)]⟩
              case measure => simp [intOf]; omega
          · have hz : ((cmpS f1 f2 : Int) == 0) = false := by simp [hc]
            have hz2 : ((cmpS f1 f2 : Int) != 0) = true := by simp [hc]
            have HC := Lib.hid hc
            clear hc
            go_wp2_with fail
            go_still_tail 12, (by kernel_rfl)
            change wpList _ _ _ _ _ wr.drew
            go_wp2_with (go_at_call 58; refine (refTexts_any _ _ _).mono ?_; rintro e w' ⟨rfl, rfl⟩)
            go_ret
            obtain ⟨e1, e2⟩ := HH.out
            have hcf : cf = cmpS f1 f2 := by rw [HP.out, if_neg HC.out]
            exact ⟨ret_int (by rw [HV.out, e1, e2, hcf, if_neg HC.out]), hbel.drew⟩
        · have HH := Lib.hid (heq.trans (cmpD_end (by simpa using hk1) (by simpa using hk2) (by simpa using hlt)))
          clear heq
          go_wp2_with (go_at_call 57; refine (refInts_any _ _ _).mono ?_; rintro e w' ⟨rfl, rfl⟩)
          all_goals
            go_ret
            exact ⟨ret_int (by rw [HV.out, HH.out]; simp), hbel⟩
    have hz : cmpV (T.mk kx nx sx lax lcx lx dax dcx dx).val (T.mk kx ny sy lay lcy ly day dcy dy).val = 0 := by rw [HV.out]; simp [k3, k4, k5, k6, k7, k8, k9, k10]
    replace hz := Lib.hid hz
    have b3 : ((kx : Int) == 3) = false := by simp [k3]
    have b4 : ((kx : Int) == 4) = false := by simp [k4]
    have b5 : ((kx : Int) == 5) = false := by simp [k5]
    have b6 : ((kx : Int) == 6) = false := by simp [k6]
    have b7 : ((kx : Int) == 7) = false := by simp [k7]
    have b8 : ((kx : Int) == 8) = false := by simp [k8]
    have b9 : ((kx : Int) == 9) = false := by simp [k9]
    have b10 : ((kx : Int) == 10) = false := by simp [k10]
    clear k3 k4 k5 k6 k7 k8 k9 k10
    go_enter Tryd.func22, Tryd.ntmps22
    go_wp2_with fail
    go_ret
    exact ⟨ret_int (by rw [hz.out]), below2 _ _ _⟩
  · have hn : ((kx : Int) != ky) = true := by simp [hk]
    go_enter Tryd.func22, Tryd.ntmps22
    go_wp2_with (go_at_call 57; refine (refInts_any _ _ _).mono ?_; rintro e w' ⟨rfl, rfl⟩)
    go_ret
    exact ⟨ret_int (by rw [HV.out]; simp [hk]), below2 _ _ _⟩
end Go.Proofs.YtlmlehjfockkpaaDoor
