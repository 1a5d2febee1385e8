/- The law KeyOrder over its contracts: no statement is proved here. -/
import Derived.Test.YtdlgngnibbaamaaDoorKAwake
namespace Go.Proofs.YtdlgngnibbaamaaDoor
open Go.RowKit
set_option maxRecDepth 100000

theorem key_ok {l : List V} {d : List Bool} {x : List Int} (h : keyOf l d = (0, x)) : l.length = d.length ∧ 1 ≤ d.length ∧ d.length ≤ 4 ∧ (∀ v ∈ l, rightOf v = 0) ∧ x = keyR l d ∧ x.length ≤ 1000 := by
  unfold keyOf at h
  split at h
  · simp at h
  · rename_i h1
    split at h
    · rename_i h2
      split at h
      · simp at h
      · simp only [Prod.mk.injEq, true_and] at h
        subst h
        exact ⟨by omega, by omega, by omega, wrongL_all h2, rfl, by omega⟩
    · rename_i h2
      simp only [Prod.mk.injEq] at h
      exact absurd h.1 h2
theorem cmpR_step {l m : List V} {d : List Bool} {k : Nat} {x y : V} {b : Bool} (hx : l[k]? = some x) (hy : m[k]? = some y) (hb : d[k]? = some b) :
    cmpR (l.drop k) (m.drop k) (d.drop k) = if (if b then -cmpV x y else cmpV x y) = 0 then cmpR (l.drop (k + 1)) (m.drop (k + 1)) (d.drop (k + 1)) else (if b then -cmpV x y else cmpV x y) := by
  obtain ⟨h1, rfl⟩ := List.getElem?_eq_some_iff.1 hx
  obtain ⟨h2, rfl⟩ := List.getElem?_eq_some_iff.1 hy
  obtain ⟨h3, rfl⟩ := List.getElem?_eq_some_iff.1 hb
  rw [List.drop_eq_getElem_cons h1, List.drop_eq_getElem_cons h2, List.drop_eq_getElem_cons h3, cmpR]
theorem InF.one {w : World} {a : Option Addr} {d : List Bool} (h : InF w a d) {i : Nat} (hi : i < d.length) : ∃ b o x, a = some ⟨b, o, none⟩ ∧ d[i]? = some x ∧ w.cell? ⟨b, o + i, none⟩ = some (.bool x) := by
  obtain ⟨b, o, ha, hc⟩ := h i _ (List.getElem?_eq_getElem hi)
  exact ⟨b, o, _, ha, List.getElem?_eq_getElem hi, hc⟩
/-- The order of two rows as far as they are read. -/
def OrdRel (l m : List V) (d : List Bool) (k : Nat) (c : Int) : Prop := -1 ≤ c ∧ c ≤ 1 ∧ (c = 0 → cmpR l m d = cmpR (l.drop k) (m.drop k) (d.drop k)) ∧ (c ≠ 0 → cmpR l m d = c)
theorem ordRel_step {l m : List V} {d : List Bool} {k : Nat} {x y : V} {b : Bool} (h : OrdRel l m d k 0) (hx : l[k]? = some x) (hy : m[k]? = some y) (hb : d[k]? = some b) : OrdRel l m d (k + 1) (if b then -cmpV x y else cmpV x y) := by
  have hs := cmpR_step hx hy hb
  have hr := cmpV_range x y
  refine ⟨by split <;> omega, by split <;> omega, fun h0 => ?_, fun h0 => ?_⟩
  · rw [h.2.2.1 rfl, hs, if_pos h0]
  · rw [h.2.2.1 rfl, hs, if_neg h0]
theorem ordRel_done {l m : List V} {d : List Bool} {k : Nat} {c : Int} (h : OrdRel l m d k c) (hk : c ≠ 0 ∨ d.length ≤ k) : cmpR l m d = c := by
  by_cases h0 : c = 0
  · have hd : d.drop k = [] := List.drop_eq_nil_of_le (by omega)
    rw [h.2.2.1 h0, hd, h0]
    unfold cmpR
    split <;> first | rfl | simp_all
  · exact h.2.2.2 h0
theorem row_says {a b : List T} {d : List Bool} {x y : List Int} (ha : ∀ t ∈ a, t.ok) (hb : ∀ t ∈ b, t.ok) (h1 : keyOf (a.map T.val) d = (0, x)) (h2 : keyOf (b.map T.val) d = (0, y)) : Says (cmpR (a.map T.val) (b.map T.val) d) x y := by
  obtain ⟨l1, -, -, r1, rfl, -⟩ := key_ok h1
  obtain ⟨l2, -, -, r2, rfl, -⟩ := key_ok h2
  refine says_row d _ _ l1 l2 (fun v hv => ⟨right_shape_of (r1 v hv), ?_⟩) (fun v hv => ⟨right_shape_of (r2 v hv), ?_⟩)
  · obtain ⟨t, ht, rfl⟩ := List.mem_map.1 hv
    exact T.ok.fit t (ha t ht)
  · obtain ⟨t, ht, rfl⟩ := List.mem_map.1 hv
    exact T.ok.fit t (hb t ht)

set_option maxHeartbeats 8000000 in
theorem korder_law (la : Option Addr) (ca : Nat) (a : List T) (lb : Option Addr) (cb : Nat) (b : List T) (ld : Option Addr) (cd : Nat) (d : List Bool) (w : World) (ha : InL w la a) (hb : InL w lb b) (hd : InF w ld d) (na : okLen (a.length * 80)) (nb : okLen (b.length * 80)) (nd : d.length ≤ 140737488351232) (oka : ∀ x ∈ a, x.ok) (okb : ∀ x ∈ b, x.ok) (hT : Tabs w) :
    Calls Tryd.prog 11 #[.slice la a.length ca, .slice lb b.length cb, .slice ld d.length cd] w fun e w' => e = .returned (.bool true) ∧ Below w.heap.size w w' := by
  have HA := Lib.hid (And.intro ha (And.intro hb (And.intro hd hT)))
  have OK := Lib.hid (And.intro oka okb)
  have na2 : a.length ≤ 1759218604390 := by have : a.length * 80 ≤ 140737488351232 := na; omega
  have nb2 : b.length ≤ 1759218604390 := by have : b.length * 80 ≤ 140737488351232 := nb; omega
  clear ha hb hd hT oka okb na nb
  go_enter Tryd.func11, Tryd.ntmps11
  go_wp2_with fail
  refine (awake03_any _ HA.out.2.2.2).mono ?_
  rintro e w1 ⟨rfl, b1⟩
  have B1 := Lib.hid b1
  clear b1
  go_wp2_with fail
  refine (key_any la ca a ld cd d w1 (HA.out.1.then_ B1.out) (HA.out.2.2.1.then_ B1.out) na2 OK.out.1 (HA.out.2.2.2.then_ B1.out)).mono ?_
  rintro e w2 ⟨va, rfl, oa, b2⟩
  have B2 := Lib.hid (below_then B1.out b2)
  obtain ⟨⟨ea, x⟩, hkx⟩ : ∃ p, keyOf (a.map T.val) d = p := ⟨_, rfl⟩
  rw [hkx] at oa ⊢
  have OA := Lib.hid oa
  have KX := Lib.hid hkx
  clear b2 B1 oa hkx
  go_wp2_with fail
  refine (key_any lb cb b ld cd d w2 (HA.out.2.1.then_ B2.out) (HA.out.2.2.1.then_ B2.out) nb2 OK.out.2 (HA.out.2.2.2.then_ B2.out)).mono ?_
  rintro e w3 ⟨vb, rfl, ob, b3⟩
  obtain ⟨⟨eb, y⟩, hky⟩ : ∃ p, keyOf (b.map T.val) d = p := ⟨_, rfl⟩
  rw [hky] at ob ⊢
  have OA3 := Lib.hid (OA.out.then_ b3)
  have OB := Lib.hid ob
  have KY := Lib.hid hky
  have B3 := Lib.hid (below_then B2.out b3)
  clear b3 B2 ob hky OA
  by_cases h1 : ea = 0
  · subst h1
    by_cases h2 : eb = 0
    · subst h2
      have HS := Lib.hid (row_says OK.out.1 OK.out.2 KX.out KY.out)
      obtain ⟨l1, d1, d4, -, -, x1⟩ := key_ok KX.out
      obtain ⟨l2, -, -, -, -, y1⟩ := key_ok KY.out
      simp only [List.length_map] at l1 l2
      go_wp2_with fail
      go_loopw [12, 13] (fun c i wr => ∃ (k : Nat) (z : Int), k ≤ d.length ∧ i = .int .i64 k ∧ c = .int .i64 z ∧ OrdRel (a.map T.val) (b.map T.val) d k z ∧ Below w3.heap.size w3 wr) (fun _ i _ => d.length - (intOf i).toNat)
      case atStart => exact ⟨0, 0, by omega, rfl, rfl, ⟨by omega, by omega, fun _ => by simp, fun h => absurd rfl h⟩, Below.refl _ _⟩
      case round =>
        obtain ⟨k, z, hk, rfl, rfl, hr, hbel⟩ := hrel
        have HR := Lib.hid hr
        have HB := Lib.hid (below_then B3.out hbel)
        have HC := Lib.hid hbel
        clear hr hbel
        by_cases hgo : k < d.length ∧ z = 0
        · obtain ⟨hkd, rfl⟩ := hgo
          obtain ⟨gx, ox, kx, nx, sx, lax, lcx, lx, dax, dcx, dx, rfl, hx, inx, x0, x1', x2, x3, x4⟩ := (HA.out.1.then_ HB.out).five (i := k) (by omega)
          obtain ⟨gy, oy, ky, ny, sy, lay, lcy, ly, day, dcy, dy, rfl, hy, iny, y0, y1', y2, y3, y4⟩ := (HA.out.2.1.then_ HB.out).five (i := k) (by omega)
          obtain ⟨gf, of_, f, rfl, hf, f0⟩ := (HA.out.2.2.1.then_ HB.out).one hkd
          have K3 := Lib.hid (fun w => compare_any (.mk kx nx sx lax lcx lx dax dcx dx) (.mk ky ny sy lay lcy ly day dcy dy) w (OK.out.1 _ (List.mem_of_getElem? hx)) (OK.out.2 _ (List.mem_of_getElem? hy)))
          have HN := Lib.hid (ordRel_step HR.out (by rw [List.getElem?_map, hx]; rfl) (by rw [List.getElem?_map, hy]; rfl) hf)
          have hcr := cmpV_range (T.mk kx nx sx lax lcx lx dax dcx dx).val (T.mk ky ny sy lay lcy ly day dcy dy).val
          generalize cmpV (T.mk kx nx sx lax lcx lx dax dcx dx).val (T.mk ky ny sy lay lcy ly day dcy dy).val = cv at K3 HN hcr
          have W1 : (k : Int) < (d.length : Int) := by omega
          have W2 : (k : Int) < (a.length : Int) := by omega
          have W3 : (k : Int) < (b.length : Int) := by omega
          have W4 : (0 : Int) ≤ (k : Int) := by omega
          clear hx hy hf
          go_wp2_with fail
          go_still_tail 8, (by kernel_rfl)
          change wpList _ _ _ _ _ wr.drew
          go_wp2_with fail
          refine (K3.out wr.drew inx iny).mono ?_
          rintro e wq ⟨rfl, bq0⟩
          have bq : Below wr.heap.size wr wq := ⟨bq0.os, bq0.tape, bq0.output, bq0.size, bq0.block⟩
          have HQ := Lib.hid (below_then HC.out bq)
          replace f0 := (bq.cell (cell_lt f0)).trans f0
          clear bq0 bq x0 x1' x2 x3 x4 y0 y1' y2 y3 y4 inx iny
          cases f
          all_goals
            go_wp2_with fail
            go_roundw
            case rel => exact ⟨k + 1, _, by omega, by go_num, (by rfl), HN.out, HQ.out⟩
            case measure => simp [intOf]; omega
        · have hz := ordRel_done HR.out (by omega)
          have HS2 := Lib.hid (hz ▸ HS.out)
          have hzr := And.intro HR.out.1 HR.out.2.1
          obtain ⟨aa, ac, rfl, ina, -, la1, -⟩ := OA3.out.shape
          obtain ⟨ba, bc, rfl, inb, -, lb1, -⟩ := OB.out.shape
          have INA := Lib.hid (ina.then_ HC.out)
          have INB := Lib.hid (inb.then_ HC.out)
          clear ina inb hz
          rcases (show ¬ k < d.length ∨ ¬ z = 0 by omega) with hkd | hz0
          · go_wp2_with fail
            refine (bcompare_any aa ba ac bc x y _ INA.out INB.out (by omega) (by omega)).mono ?_
            rintro e wq ⟨rfl, bq⟩
            rw [HS2.out.cmp]
            have HQ := Lib.hid (below_then HB.out bq)
            clear bq
            go_wp2_with fail
            go_ret
            exact ⟨ret_bool (by simp), HQ.out⟩
          · by_cases hkd : k < d.length
            · go_wp2_with fail
              refine (bcompare_any aa ba ac bc x y _ INA.out INB.out (by omega) (by omega)).mono ?_
              rintro e wq ⟨rfl, bq⟩
              rw [HS2.out.cmp]
              have HQ := Lib.hid (below_then HB.out bq)
              clear bq
              go_wp2_with fail
              go_ret
              exact ⟨ret_bool (by simp), HQ.out⟩
            · go_wp2_with fail
              refine (bcompare_any aa ba ac bc x y _ INA.out INB.out (by omega) (by omega)).mono ?_
              rintro e wq ⟨rfl, bq⟩
              rw [HS2.out.cmp]
              have HQ := Lib.hid (below_then HB.out bq)
              clear bq
              go_wp2_with fail
              go_ret
              exact ⟨ret_bool (by simp), HQ.out⟩
    · go_wp2_with fail
      go_ret
      exact ⟨rfl, B3.out⟩
  · go_wp2_with fail
    go_ret
    exact ⟨rfl, B3.out⟩
end Go.Proofs.YtdlgngnibbaamaaDoor
