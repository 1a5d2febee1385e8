/- The contract of Same: no statement is proved here. -/
import Derived.Test.YtjfgmcmnpekahaaDoorAwake
namespace Go.Proofs.YtjfgmcmnpekahaaDoor
open Go.RowKit
set_option maxRecDepth 100000

mutual
/-- Are two values the same, all of them? -/
def sameV : V → V → Bool
  | .mk k n s l d, .mk k' n' s' l' d' => k == k' && (n == n' && (s.toList == s'.toList && (l.length == l'.length && (d.length == d'.length && (sameL l l' && sameD d d')))))
def sameL : List V → List V → Bool
  | [], _ => true
  | _ :: _, [] => true
  | x :: r, y :: r' => sameV x y && sameL r r'
def sameD : List (ByteArray × V) → List (ByteArray × V) → Bool
  | [], _ => true
  | _ :: _, [] => true
  | (s, x) :: r, (s', y) :: r' => sameV x y && ((s.toList == s'.toList) && sameD r r')
end
theorem sameL_step {l l' : List V} {k : Nat} {x y : V} (hx : l[k]? = some x) (hy : l'[k]? = some y) : sameL (l.drop k) (l'.drop k) = (sameV x y && sameL (l.drop (k + 1)) (l'.drop (k + 1))) := by
  obtain ⟨h1, rfl⟩ := List.getElem?_eq_some_iff.1 hx
  obtain ⟨h2, rfl⟩ := List.getElem?_eq_some_iff.1 hy
  rw [List.drop_eq_getElem_cons h1, List.drop_eq_getElem_cons h2, sameL]
theorem sameL_done {l l' : List V} {k : Nat} (h : l.length ≤ k) : sameL (l.drop k) (l'.drop k) = true := by
  rw [List.drop_eq_nil_of_le h, sameL]
theorem sameD_step {l l' : List (ByteArray × V)} {k : Nat} {x y : ByteArray × V} (hx : l[k]? = some x) (hy : l'[k]? = some y) : sameD (l.drop k) (l'.drop k) = (sameV x.2 y.2 && ((x.1.toList == y.1.toList) && sameD (l.drop (k + 1)) (l'.drop (k + 1)))) := by
  obtain ⟨h1, rfl⟩ := List.getElem?_eq_some_iff.1 hx
  obtain ⟨h2, rfl⟩ := List.getElem?_eq_some_iff.1 hy
  rw [List.drop_eq_getElem_cons h1, List.drop_eq_getElem_cons h2, sameD]
theorem sameD_done {l l' : List (ByteArray × V)} {k : Nat} (h : l.length ≤ k) : sameD (l.drop k) (l'.drop k) = true := by
  rw [List.drop_eq_nil_of_le h, sameD]

theorem bytes_eq {s s' : ByteArray} (h : s.toList = s'.toList) : s = s' := by
  rw [Lib.toList_data, Lib.toList_data] at h
  obtain ⟨s⟩ := s
  obtain ⟨s'⟩ := s'
  simp at h
  rw [h]
theorem sameV_iff (a : V) : ∀ b : V, sameV a b = true ↔ a = b := by
  induction a using V.ind with
  | h k n s l d ihl ihd =>
  intro b
  obtain ⟨k', n', s', l', d'⟩ := b
  have hL : ∀ (l : List V), (∀ x ∈ l, ∀ b, sameV x b = true ↔ x = b) → ∀ l' : List V, l.length = l'.length → (sameL l l' = true ↔ l = l') := by
    intro l
    induction l with
    | nil => intro _ l' h; cases l' with
      | nil => simp [sameL]
      | cons y r => simp at h
    | cons x r ih =>
      intro hx l' h
      cases l' with
      | nil => simp at h
      | cons y r' =>
        rw [sameL, Bool.and_eq_true, hx x (by simp), ih (fun z hz => hx z (by simp [hz])) r' (by simpa using h)]
        simp
  have hD : ∀ (l : List (ByteArray × V)), (∀ x ∈ l, ∀ b, sameV x.2 b = true ↔ x.2 = b) → ∀ l' : List (ByteArray × V), l.length = l'.length → (sameD l l' = true ↔ l = l') := by
    intro l
    induction l with
    | nil => intro _ l' h; cases l' with
      | nil => simp [sameD]
      | cons y r => simp at h
    | cons x r ih =>
      intro hx l' h
      cases l' with
      | nil => simp at h
      | cons y r' =>
        obtain ⟨s, x⟩ := x
        obtain ⟨s', y⟩ := y
        have h1 := hx (s, x) (by simp)
        simp only at h1
        rw [sameD, Bool.and_eq_true, Bool.and_eq_true, h1, ih (fun z hz => hx z (by simp [hz])) r' (by simpa using h), beq_iff_eq]
        constructor
        · rintro ⟨rfl, h2, rfl⟩; rw [bytes_eq h2]
        · rintro h; simp at h; obtain ⟨⟨rfl, rfl⟩, rfl⟩ := h; exact ⟨rfl, rfl, rfl⟩
  rw [sameV]
  simp only [Bool.and_eq_true, beq_iff_eq]
  constructor
  · rintro ⟨rfl, rfl, h3, h4, h5, h6, h7⟩
    rw [bytes_eq h3, (hL l ihl l' h4).1 h6, (hD d ihd d' h5).1 h7]
  · intro h
    simp only [V.mk.injEq] at h
    obtain ⟨rfl, rfl, rfl, rfl, rfl⟩ := h
    exact ⟨rfl, rfl, rfl, rfl, rfl, (hL l ihl l rfl).2 rfl, (hD d ihd d rfl).2 rfl⟩

def SameAt (a : T) : Prop := ∀ (b : T) (w : World), a.ok → b.ok → a.In w → b.In w → Calls Tryd.prog 21 #[a.arg, b.arg] w fun e w' => e = .returned (.bool (sameV a.val b.val)) ∧ Below w.heap.size w w'
theorem below_drewN {B : Nat} {a w : World} (h : Below B a w) (n : Nat) : Below B a (w.drewN n) := ⟨h.os, h.tape, h.output, h.size, h.block⟩
/-- The two boxes of a call, and all that was there before it. -/
def Rel1 (w wr : World) (a b : T) : Prop := Below w.heap.size w wr ∧ wr.heap[w.heap.size]? = some (.cells a.cells.toArray 25 (0, 0)) ∧ wr.heap[w.heap.size + 1]? = some (.cells b.cells.toArray 25 (0, 0))
theorem Rel1.then_ {w wr w' : World} {a b : T} (h : Rel1 w wr a b) (hb : Below wr.heap.size wr w') : Rel1 w w' a b := ⟨below_then h.1 hb, row_then h.2.1 hb, row_then h.2.2 hb⟩
set_option maxHeartbeats 4000000 in
theorem same_any (a : T) : SameAt a := by
  induction a using T.ind with
  | h kx nx sx lax lcx lx dax dcx dx ihl ihd =>
  intro b w oka okb ha hb
  obtain ⟨ky, ny, sy, lay, lcy, ly, day, dcy, dy⟩ := b
  show Calls _ _ #[.agg #[.int .i64 kx, .int .i64 nx, .string sx, .slice lax lx.length lcx, .slice dax dx.length dcx], .agg #[.int .i64 ky, .int .i64 ny, .string sy, .slice lay ly.length lcy, .slice day dy.length dcy]] _ _
  obtain ⟨-, -, -, -, -, ol1, ol2, od1, od2, ol3, od3⟩ := oka.parts
  obtain ⟨-, -, -, -, -, pl1, pl2, pd1, pd2, pl3, pd3⟩ := okb.parts
  have HV := Lib.hid (show sameV (T.mk kx nx sx lax lcx lx dax dcx dx).val (T.mk ky ny sy lay lcy ly day dcy dy).val = _ by rw [T.val_mk, T.val_mk, sameV, List.length_map, List.length_map, List.length_map, List.length_map])
  obtain ⟨ha1, ha2⟩ := ha.parts
  obtain ⟨hb1, hb2⟩ := hb.parts
  clear oka okb ha hb
  by_cases hk : kx = ky
  · subst hk
    by_cases hn : nx = ny
    · subst hn
      by_cases hs : sx.toList = sy.toList
      · have s2 : (!(sx.toList == sy.toList)) = false := by simp [hs]
        have HS := Lib.hid hs
        clear hs
        by_cases hl : lx.length = ly.length
        · have l2 : ((lx.length : Int) != (ly.length : Int)) = false := by simp [hl]
          have HL := Lib.hid hl
          clear hl
          by_cases hd : dx.length = dy.length
          · have d2 : ((dx.length : Int) != (dy.length : Int)) = false := by simp [hd]
            have HD := Lib.hid hd
            clear hd
            replace HV := Lib.hid (show sameV (T.mk kx nx sx lax lcx lx dax dcx dx).val (T.mk kx nx sy lay lcy ly day dcy dy).val = (sameL (lx.map T.val) (ly.map T.val) && sameD (dx.map fun f => (f.1, f.2.val)) (dy.map fun f => (f.1, f.2.val))) by rw [HV.out]; simp [HS.out, HL.out, HD.out])
            go_enter Tryd.func21, Tryd.ntmps21
            go_wp2_with fail
            go_loopw [5, 6] (fun i _ wr => ∃ k : Nat, k ≤ lx.length ∧ i = .int .i64 k ∧ Rel1 w wr (.mk kx nx sx lax lcx lx dax dcx dx) (.mk kx nx sy lay lcy ly day dcy dy) ∧ sameL (lx.map T.val) (ly.map T.val) = sameL ((lx.map T.val).drop k) ((ly.map T.val).drop k)) (fun i _ _ => lx.length - (intOf i).toNat)
            case atStart => exact ⟨0, by omega, rfl, ⟨below2 _ _ _, heap_alloc2_old _ _ _, heap_alloc2_new _ _ _⟩, by simp⟩
            case round =>
              obtain ⟨k, hk, rfl, ⟨hbel, qa, qb⟩, heq⟩ := hrel
              have HH := Lib.hid heq
              have QA := Lib.hid qa
              have QB := Lib.hid qb
              have ka : ∀ o, wr.cell? ⟨w.heap.size, o, none⟩ = (#[.int .i64 kx, .int .i64 nx, .string sx, .slice lax lx.length lcx, .slice dax dx.length dcx] : Array Value)[o]? := row_cells qa
              have kb : ∀ o, wr.cell? ⟨w.heap.size + 1, o, none⟩ = (#[.int .i64 kx, .int .i64 nx, .string sy, .slice lay ly.length lcy, .slice day dy.length dcy] : Array Value)[o]? := row_cells qb
              clear heq qa qb
              by_cases h1 : k < lx.length
              · have h2 : k < ly.length := by have := HL.out; omega
                obtain ⟨bx, ox, k1, n1, s1, la1, lc1, l1, da1, dc1, d1, rfl, hx, hix, x0, x1, x2, x3, x4⟩ := (ha1.then_ hbel).five h1
                obtain ⟨by_, oy, k2, n2, t2, la2, lc2, l2', da2, dc2, d2', rfl, hy, hiy, y0, y1, y2, y3, y4⟩ := (hb1.then_ hbel).five h2
                have H := Lib.hid (fun w => ihl _ (List.mem_of_getElem? hx) _ w (ol3 _ (List.mem_of_getElem? hx)) (pl3 _ (List.mem_of_getElem? hy)))
                have HT := Lib.hid (sameL_step (l := lx.map T.val) (l' := ly.map T.val) (k := k) (by rw [List.getElem?_map, hx]; rfl) (by rw [List.getElem?_map, hy]; rfl))
                clear ihl ihd hx hy ha1 ha2 hb1 hb2 ol3 od3 pl3 pd3
                go_wp2_with fail
                go_still_tail 10, (by kernel_rfl)
                change wpList _ _ _ _ _ wr.drew
                go_wp2_with (go_at_call 21; refine (H.out wr.drew hix hiy).mono ?_; rintro e w1 ⟨rfl, b0⟩; have b1 : Below wr.heap.size wr w1 := ⟨b0.os, b0.tape, b0.output, b0.size, b0.block⟩; clear b0)
                · go_ret
                  have hf : sameV (T.mk k1 n1 s1 la1 lc1 l1 da1 dc1 d1).val (T.mk k2 n2 t2 la2 lc2 l2' da2 dc2 d2').val = false := by simpa using ‹(!_) = true›
                  exact ⟨ret_bool (by rw [HV.out, HH.out, HT.out, hf]; simp), below_then hbel b1⟩
                · have hf : sameV (T.mk k1 n1 s1 la1 lc1 l1 da1 dc1 d1).val (T.mk k2 n2 t2 la2 lc2 l2' da2 dc2 d2').val = true := by simpa using ‹(!_) = false›
                  go_roundw
                  case rel => exact ⟨k + 1, by omega, by go_num, Rel1.then_ ⟨hbel, QA.out, QB.out⟩ b1, by rw [HH.out, HT.out, hf, Bool.true_and]⟩
                  case measure => simp [intOf]; omega
              · replace HV := Lib.hid (HV.out.trans (by rw [HH.out, sameL_done (by simp; omega), Bool.true_and]))
                clear ihl ol3 pl3 HH ha1 hb1
                go_wp2_with fail
                obtain ⟨wo, rfl⟩ : ∃ wo : World, wo = wr := ⟨_, rfl⟩
                go_loopw [7, 8] (fun i _ wr => ∃ k : Nat, k ≤ dx.length ∧ i = .int .i64 k ∧ Rel1 w wr (.mk kx nx sx lax lcx lx dax dcx dx) (.mk kx nx sy lay lcy ly day dcy dy) ∧ sameD (dx.map fun f => (f.1, f.2.val)) (dy.map fun f => (f.1, f.2.val)) = sameD ((dx.map fun f => (f.1, f.2.val)).drop k) ((dy.map fun f => (f.1, f.2.val)).drop k)) (fun i _ _ => dx.length - (intOf i).toNat)
                case atStart => exact ⟨0, by omega, rfl, ⟨hbel, QA.out, QB.out⟩, by simp⟩
                case round =>
                  clear ka kb QA QB hbel
                  obtain ⟨j, hj, rfl, ⟨hbel, qa, qb⟩, heq⟩ := hrel
                  have HH := Lib.hid heq
                  have QA := Lib.hid qa
                  have QB := Lib.hid qb
                  have ka : ∀ o, wr.cell? ⟨w.heap.size, o, none⟩ = (#[.int .i64 kx, .int .i64 nx, .string sx, .slice lax lx.length lcx, .slice dax dx.length dcx] : Array Value)[o]? := row_cells qa
                  have kb : ∀ o, wr.cell? ⟨w.heap.size + 1, o, none⟩ = (#[.int .i64 kx, .int .i64 nx, .string sy, .slice lay ly.length lcy, .slice day dy.length dcy] : Array Value)[o]? := row_cells qb
                  clear heq qa qb
                  by_cases h1 : j < dx.length
                  · have h2 : j < dy.length := by have := HD.out; omega
                    obtain ⟨bx, ox, f1, k1, n1, s1, la1, lc1, l1, da1, dc1, d1, rfl, hx, hix, x0, x1, x2, x3, x4, x5⟩ := (ha2.then_ hbel).six h1
                    obtain ⟨by_, oy, f2, k2, n2, t2, la2, lc2, l2', da2, dc2, d2', rfl, hy, hiy, y0, y1, y2, y3, y4, y5⟩ := (hb2.then_ hbel).six h2
                    have H := Lib.hid (fun w => ihd _ (List.mem_of_getElem? hx) _ w (od3 _ (List.mem_of_getElem? hx)).2 (pd3 _ (List.mem_of_getElem? hy)).2)
                    have HT := Lib.hid (sameD_step (l := dx.map fun f => (f.1, f.2.val)) (l' := dy.map fun f => (f.1, f.2.val)) (k := j) (by rw [List.getElem?_map, hx]; rfl) (by rw [List.getElem?_map, hy]; rfl))
                    clear ihd hx hy ha2 hb2 od3 pd3
                    simp only at H HT
                    generalize sameV (T.mk k1 n1 s1 la1 lc1 l1 da1 dc1 d1).val (T.mk k2 n2 t2 la2 lc2 l2' da2 dc2 d2').val = sb at H HT
                    go_wp2_with fail
                    go_still_tail 12, (by kernel_rfl)
                    change wpList _ _ _ _ _ wr.drew
                    cases sb
                    · go_wp2_with (go_at_call 21; refine (H.out wr.drew hix hiy).mono ?_; rintro e w1 ⟨rfl, b0⟩; have b1 : Below wr.heap.size wr w1 := ⟨b0.os, b0.tape, b0.output, b0.size, b0.block⟩; clear b0)
                      go_quiet (fail)
                      go_wp2_with fail
                      go_ret
                      exact ⟨ret_bool (by rw [HV.out, HH.out, HT.out]; simp), below_then hbel (below_drewN b1 _)⟩
                    · by_cases hf : f1.toList = f2.toList
                      · have hf2 : (!(f1.toList == f2.toList)) = false := by simp [hf]
                        have HF := Lib.hid hf
                        clear hf
                        go_wp2_with (go_at_call 21; refine (H.out wr.drew hix hiy).mono ?_; rintro e w1 ⟨rfl, b0⟩; have b1 : Below wr.heap.size wr w1 := ⟨b0.os, b0.tape, b0.output, b0.size, b0.block⟩; clear b0; have z0 := (b1.cell (cell_lt x0)).trans x0; have z1 := (b1.cell (cell_lt y0)).trans y0; have ka1 : ∀ o, w1.cell? ⟨w.heap.size, o, none⟩ = _ := fun o => (b1.cell (p := ⟨w.heap.size, o, none⟩) (lt_of_block QA.out)).trans (ka o); have kb1 : ∀ o, w1.cell? ⟨w.heap.size + 1, o, none⟩ = _ := fun o => (b1.cell (p := ⟨w.heap.size + 1, o, none⟩) (lt_of_block QB.out)).trans (kb o))
                        go_quiet (fail)
                        go_wp2_with fail
                        go_roundw
                        case rel => exact ⟨j + 1, by omega, by go_num, Rel1.then_ ⟨hbel, QA.out, QB.out⟩ (below_drewN b1 _), by rw [HH.out, HT.out, HF.out]; simp⟩
                        case measure => simp [intOf]; omega
                      · have hf2 : (!(f1.toList == f2.toList)) = true := by simp [hf]
                        have HF := Lib.hid hf
                        clear hf
                        go_wp2_with (go_at_call 21; refine (H.out wr.drew hix hiy).mono ?_; rintro e w1 ⟨rfl, b0⟩; have b1 : Below wr.heap.size wr w1 := ⟨b0.os, b0.tape, b0.output, b0.size, b0.block⟩; clear b0; have z0 := (b1.cell (cell_lt x0)).trans x0; have z1 := (b1.cell (cell_lt y0)).trans y0; have ka1 : ∀ o, w1.cell? ⟨w.heap.size, o, none⟩ = _ := fun o => (b1.cell (p := ⟨w.heap.size, o, none⟩) (lt_of_block QA.out)).trans (ka o); have kb1 : ∀ o, w1.cell? ⟨w.heap.size + 1, o, none⟩ = _ := fun o => (b1.cell (p := ⟨w.heap.size + 1, o, none⟩) (lt_of_block QB.out)).trans (kb o))
                        go_quiet (fail)
                        go_wp2_with fail
                        go_ret
                        exact ⟨ret_bool (by rw [HV.out, HH.out, HT.out]; simp [HF.out]), below_then hbel (below_drewN b1 _)⟩
                  · go_wp2_with fail
                    go_ret
                    exact ⟨ret_bool (by rw [HV.out, HH.out, sameD_done (by simp; omega)]), hbel⟩
          · replace HV := Lib.hid (show sameV (T.mk kx nx sx lax lcx lx dax dcx dx).val (T.mk kx nx sy lay lcy ly day dcy dy).val = false by rw [HV.out]; simp [hd])
            have d2 : ((dx.length : Int) != (dy.length : Int)) = true := by simp; omega
            clear hd
            go_enter Tryd.func21, Tryd.ntmps21
            go_wp2_with fail
            go_ret
            exact ⟨ret_bool (by rw [HV.out]), below2 _ _ _⟩
        · replace HV := Lib.hid (show sameV (T.mk kx nx sx lax lcx lx dax dcx dx).val (T.mk kx nx sy lay lcy ly day dcy dy).val = false by rw [HV.out]; simp [hl])
          have l2 : ((lx.length : Int) != (ly.length : Int)) = true := by simp; omega
          clear hl
          go_enter Tryd.func21, Tryd.ntmps21
          go_wp2_with fail
          go_ret
          exact ⟨ret_bool (by rw [HV.out]), below2 _ _ _⟩
      · replace HV := Lib.hid (show sameV (T.mk kx nx sx lax lcx lx dax dcx dx).val (T.mk kx nx sy lay lcy ly day dcy dy).val = false by rw [HV.out]; simp [hs])
        have s2 : (!(sx.toList == sy.toList)) = true := by simp [hs]
        clear hs
        go_enter Tryd.func21, Tryd.ntmps21
        go_wp2_with fail
        go_ret
        exact ⟨ret_bool (by rw [HV.out]), below2 _ _ _⟩
    · replace HV := Lib.hid (show sameV (T.mk kx nx sx lax lcx lx dax dcx dx).val (T.mk kx ny sy lay lcy ly day dcy dy).val = false by rw [HV.out]; simp [hn])
      have hn2 : ((nx : Int) != ny) = true := by simp [hn]
      clear hn
      go_enter Tryd.func21, Tryd.ntmps21
      go_wp2_with fail
      go_ret
      exact ⟨ret_bool (by rw [HV.out]), below2 _ _ _⟩
  · replace HV := Lib.hid (show sameV (T.mk kx nx sx lax lcx lx dax dcx dx).val (T.mk ky ny sy lay lcy ly day dcy dy).val = false by rw [HV.out]; simp [hk])
    have hk2 : ((kx : Int) != ky) = true := by simp [hk]
    clear hk
    go_enter Tryd.func21, Tryd.ntmps21
    go_wp2_with fail
    go_ret
    exact ⟨ret_bool (by rw [HV.out]), below2 _ _ _⟩
end Go.Proofs.YtjfgmcmnpekahaaDoor
