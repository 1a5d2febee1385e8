/- Package block's Disk.Sync: its contract. No statement is proved here. -/
import Derived.Test.YtlpnhfceblbllaaDoorDBlk6
namespace Go.Proofs.YtlpnhfceblbllaaDoor
open Go.RowKit
open Go.Maps (Keyed IsMap Tidy)
set_option maxRecDepth 100000

/-- The writes that wait, as they lie. -/
theorem BoxOf.wform {w : World} {B g N : Nat} {d : Dk} {s : Spot} (h : BoxOf w B g d N s) : ∃ (a : Option Addr) (c : Nat), s.wv = .slice a d.wait.length c ∧ ∀ (i : Nat) (p : Nat × List Int), d.wait[i]? = some p → ∃ ga v, a = some ⟨ga, 0, none⟩ ∧ s.vs[i]? = some v ∧ RowAt w B v p.2 ∧ ga < w.heap.size ∧ w.cell? ⟨ga, 2 * i, none⟩ = some (.int .i64 (p.1 : Int)) ∧ w.cell? ⟨ga, 2 * i + 1, none⟩ = some v := by
  have h0 := h.wait
  rcases h0.2 with ⟨hv, hz⟩ | ⟨ga, cap, cur, hv, hB, hg, hle, -⟩
  · refine ⟨none, 0, by rw [hv, hz], fun i p hi => ?_⟩
    have := lt_of_get hi
    omega
  · refine ⟨some ⟨ga, 0, none⟩, cap, hv, fun i p hi => ?_⟩
    have hlt := lt_of_get hi
    have hvi : s.vs[i]? = some (s.vs[i]'(by rw [h.wlen]; exact hlt)) := List.getElem?_eq_getElem _
    obtain ⟨e1, e2⟩ := waitC_get _ _ h.wlen i p _ hi hvi
    have hw := h0
    rw [hv] at hw
    refine ⟨ga, _, rfl, hvi, h.rows i p _ hi hvi, lt_of_block hg, ?_, ?_⟩
    · rw [World.ownsRow.cellAt hw (2 * i) (by omega)]; exact e1
    · rw [World.ownsRow.cellAt hw (2 * i + 1) (by omega)]; exact e2
/-- A row put at a place of the map of what is safe. -/
def Dk.lay (d : Dk) (k : Nat) (r : List Int) : Dk := { d with safe := upd d.safe k r }
theorem BoxOf.lay {w w' : World} {B g N : Nat} {d : Dk} {s : Spot} (h : BoxOf w B g d N s) (k : Nat) {v : Value} {r : List Int} (hr : RowAt w B v r) {b n c : Nat} (hv : v = .slice (some ⟨b, 0, none⟩) n c)
    (hown : w'.ownsMap Tryd.prog 3 RowR s.sb (s.nS + 1) (s.DS.put (.int .i64 (k : Int)) (encS b n c))) (hg : w.grownBy w' (some s.sb)) :
    BoxOf w' B g (d.lay k r) (N + 1) { s with nS := s.nS + 1, DS := s.DS.put (.int .i64 (k : Int)) (encS b n c) } ∧ Turns TB B w w' := by
  have keep : ∀ v r, RowAt w B v r → RowAt w' B v r := fun v r hx => hx.keep fun b hb => hg.block b (hx.block b hb).choose_spec.2.2 (fun e => (h.rowNe hx b hb).2.1 (by injection e))
  refine ⟨?_, (Turns.refl TB B w).grown hg (fun k e => ?_) (Nat.le_trans h.gB (Nat.le_of_lt h.lt))⟩
  · exact {
      box := (hg.block g h.lt (fun e => h.gsb (by injection e))).trans h.box
      gB := h.gB
      sB := h.sB
      nB := h.nB
      ne := h.ne
      mapS := hown
      mapN := owns_keep h.mapN (hg.block _ h.nbLt (fun e => h.ne (by injection e with e; exact e.symm)))
      isS := (h.isS.put k hr hv).keep keep
      isN := h.isN.keep keep
      wlen := h.wlen
      wait := row_keepW h.wait fun b hb => hg.block b (h.wvObj b hb).choose_spec.2.2 (fun e => (h.wvNe b hb).2.1 (by injection e))
      rows := fun i p v h1 h2 => keep _ _ (h.rows i p v h1 h2)
      numS := by have := h.numS; show s.nS + 1 + d.wait.length ≤ N + 1; omega
      numN := Nat.le_succ_of_le h.numN
      many := h.many
      acts := h.acts }
  · injection e with e
    subst e
    obtain ⟨es, c, e⟩ := h.sbObj
    exact ⟨h.sB, _, e, trivial⟩
/-- Nothing waits any more. -/
theorem BoxOf.emptied {w : World} {B g N N' : Nat} {d : Dk} {s : Spot} (h : BoxOf w B g d N s) (hS : s.nS ≤ N') (hN : s.nN ≤ N') : BoxOf (w.setCell ⟨g, 3, none⟩ (.slice none 0 0)) B g { d with wait := [] } N' { s with wv := .slice none 0 0, vs := [] } ∧ Turns TB B w (w.setCell ⟨g, 3, none⟩ (.slice none 0 0)) := by
  have hb : ∀ b, b ≠ g → (w.setCell ⟨g, 3, none⟩ (.slice none 0 0)).heap[b]? = w.heap[b]? := fun b hne => set_off _ _ hne
  have keep : ∀ v r, RowAt w B v r → RowAt (w.setCell ⟨g, 3, none⟩ (.slice none 0 0)) B v r := fun v r hx => hx.keep fun b hb' => hb b (h.rowNe hx b hb').1
  refine ⟨?_, (Turns.refl TB B w).setCell (p := ⟨g, 3, none⟩) h.box (TB_box _ _) h.gB _⟩
  exact {
    box := set_heap (i := 3) h.box _
    gB := h.gB
    sB := h.sB
    nB := h.nB
    ne := h.ne
    mapS := owns_keep h.mapS (hb _ h.gsb.symm)
    mapN := owns_keep h.mapN (hb _ h.gnb.symm)
    isS := h.isS.keep keep
    isN := h.isN.keep keep
    wlen := rfl
    wait := World.ownsRow_nil _ _ _ _
    rows := fun i p v h1 _ => (by simp at h1)
    numS := hS
    numN := hN
    many := h.many
    acts := h.acts }
/-- Made safe so far. -/
def Dk.part (d : Dk) (k : Nat) : Dk := { d with safe := over d.safe (d.wait.take k) }
theorem Dk.part_next (d : Dk) {k : Nat} {p : Nat × List Int} (h : d.wait[k]? = some p) : (d.part k).lay p.1 p.2 = d.part (k + 1) := by
  unfold Dk.lay Dk.part
  have e : d.wait.take (k + 1) = d.wait.take k ++ [p] := by rw [List.take_add_one, h]; rfl
  rw [e, over_snoc]
set_option maxHeartbeats 4000000 in
theorem sync1_any (db h g : Nat) (w : World) (B N : Nat) (d : Dk) (hd : w.heap[db]? = some (.cells #[.pointer (some ⟨h, 0, none⟩)] 46)) (hh : w.heap[h]? = some (.cells #[.pointer (some ⟨g, 0, none⟩)] 88)) (hN : N ≤ 1099511627776) (hb : BoxAt w B g d N) :
    Calls Tryd.prog 49 #[.pointer (some ⟨db, 0, none⟩)] w fun e w' => e = .returned (.tuple #[]) ∧ BoxAt w' B g d.settle N ∧ Turns TB B w w' := by
  obtain ⟨hok, s, hb⟩ := hb
  obtain ⟨q0, q1, q2, q3, q4, q5, q6, q7⟩ := boxC_get d s.sb s.nb s.wv
  have c3 := (hb.cells 3).trans q3
  have h0 : w.cell? ⟨h, 0, none⟩ = some (.pointer (some ⟨g, 0, none⟩)) := row_cells hh 0
  have d0 : w.cell? ⟨db, 0, none⟩ = some (.pointer (some ⟨h, 0, none⟩)) := row_cells hd 0
  obtain ⟨a, c, ew, -⟩ := hb.wform
  have hm := hb.many
  have hnw : d.wait.length ≤ 1099511627776 := by have := hb.numS; omega
  have HB := Lib.hid (And.intro hb (And.intro hok (And.intro hd (And.intro hh ew))))
  rw [ew] at c3
  clear q0 q1 q2 q3 q4 q5 q6 q7 hb hok hd hh ew
  go_enter Tryd.func49, Tryd.ntmps49
  go_wp2_with fail
  go_loopw [2, 11] (fun _ i wr => ∃ k : Nat, k ≤ d.wait.length ∧ i = .int .i64 (k : Int) ∧ Hid (∃ s', BoxOf wr B g (d.part k) (N + k) s' ∧ s'.wv = s.wv ∧ s'.vs = s.vs ∧ s'.nS = s.nS + k ∧ s'.nN = s.nN ∧ Turns TB B w wr)) (fun _ i _ => d.wait.length - (intOf i).toNat)
  case atStart => exact ⟨0, by omega, rfl, s, HB.out.1, rfl, rfl, rfl, rfl, Turns.refl _ _ _⟩
  case round =>
    obtain ⟨k, hk, rfl, HK⟩ := hrel
    obtain ⟨s', HK⟩ := HK.out
    have HK := Lib.hid HK
    have HD := Lib.hid (And.intro (HK.out.2.2.2.2.2.block _ _ HB.out.2.2.1 (TB_no (by decide) (by decide) _ _)) (HK.out.2.2.2.2.2.block _ _ HB.out.2.2.2.1 (TB_no (by decide) (by decide) _ _)))
    have d1 : wr.cell? ⟨db, 0, none⟩ = some (.pointer (some ⟨h, 0, none⟩)) := row_cells HD.out.1 0
    have h1 : wr.cell? ⟨h, 0, none⟩ = some (.pointer (some ⟨g, 0, none⟩)) := row_cells HD.out.2 0
    by_cases hlt : k < d.wait.length
    · obtain ⟨p, hp⟩ : ∃ p, d.wait[k]? = some p := ⟨_, List.getElem?_eq_getElem hlt⟩
      obtain ⟨a', c', ew', hel⟩ := HK.out.1.wform
      obtain ⟨ga, v, ea, hvs, hrow, hgl, e1, e2⟩ := hel k p hp
      subst ea
      have ewa : a = some ⟨ga, 0, none⟩ ∧ c = c' := by
        have := ew'.symm.trans (HK.out.2.1.trans HB.out.2.2.2.2)
        injection this with t1 t2 t3
        exact ⟨t1.symm, t3.symm⟩
      obtain ⟨rfl, rfl⟩ := ewa
      obtain ⟨b, n, cv, rfl⟩ := find_row hrow
      have HP := Lib.hid (And.intro hp hrow)
      rw [Nat.mul_comm 2 k] at e1 e2
      have HM := Lib.hid (show s'.nS < maxLen by have := HK.out.1.numS; unfold maxLen; have : (d.part k).wait.length = d.wait.length := rfl; omega)
      have hkm : p.1 < d.many := (HB.out.2.1.rowW p (List.mem_of_getElem? hp)).2
      have HKK := Lib.hid (key_at (k := (p.1 : Int)) (by unfold okInt; omega))
      have h3 := (HK.out.1.cells 1).trans (boxC_get (d.part k) s'.sb s'.nb s'.wv).2.1
      have hgl2 := HK.out.1.lt
      have hdl := lt_of_block HD.out.1
      have hhl := lt_of_block HD.out.2
      clear hel hvs hp hrow ew'
      go_wp2_with fail
      have x0 := heap_alloc_new wr (.cells #[.int .i64 (p.1 : Int), .slice (some ⟨b, 0, none⟩) n cv] 95)
      have XB := Lib.hid (below1 wr (.cells #[.int .i64 (p.1 : Int), .slice (some ⟨b, 0, none⟩) n cv] 95))
      generalize hw1 : wr.alloc (.cells #[.int .i64 (p.1 : Int), .slice (some ⟨b, 0, none⟩) n cv] 95) = w1 at *
      have d1' := (XB.out.cell (p := ⟨db, 0, none⟩) hdl).trans d1
      have h1' := (XB.out.cell (p := ⟨h, 0, none⟩) hhl).trans h1
      have h3' := (XB.out.cell (p := ⟨g, 1, none⟩) hgl2).trans h3
      have x1 : w1.cell? ⟨wr.heap.size, 0, none⟩ = some (.int .i64 (p.1 : Int)) := row_cells x0 0
      have x2 : w1.cell? ⟨wr.heap.size, 1, none⟩ = some (.slice (some ⟨b, 0, none⟩) n cv) := row_cells x0 1
      generalize hgb : wr.heap.size = gb at x1 x2 ⊢
      have HGB := Lib.hid (And.intro hw1 hgb)
      clear hw1 hgb x0 d1 h1 h3 e1 e2
      have HK1 := Lib.hid (HK.out.1.then_ XB.out)
      go_still_tail 11, (by kernel_rfl)
      change wpList _ _ _ _ _ w1.drew
      go_wp2_with (refine wpList_mapUpdate_own _ rfl _ _ _ 69 rfl 3 22 keyK Tryd.underlying69 RowR s'.sb s'.nS s'.DS rfl HK1.out.mapS.drew HM.out _ _ (.int .i64 (p.1 : Int)) rfl rfl HKK.out (encS b n cv) [] (rowR_mk b n cv) ?_; intro w2 hown hgr; have H2 := Lib.hid (HK1.out.lay p.1 (HP.out.2.then_ XB.out) rfl hown ⟨hgr.os, hgr.tape, hgr.output, hgr.size, hgr.block⟩); clear hown hgr)
      go_roundw
      case rel =>
        have h2 := H2.out
        rw [Dk.part_next d HP.out.1] at h2
        exact ⟨k + 1, by omega, by go_num, _, h2.1, HK.out.2.1, HK.out.2.2.1, by show s'.nS + 1 = _; rw [HK.out.2.2.2.1]; omega, HK.out.2.2.2.2.1, (HK.out.2.2.2.2.2.trans (Turns.of_below (Nat.le_trans HK.out.1.gB (Nat.le_of_lt HK.out.1.lt)) XB.out)).trans h2.2⟩
      case measure => simp [intOf]; omega
    · have hkn : k = d.wait.length := by omega
      subst hkn
      have c3' := (HK.out.1.cells 3).trans (boxC_get (d.part d.wait.length) s'.sb s'.nb s'.wv).2.2.2.1
      have f3' := HK.out.1.frozen 3
      have glt' := HK.out.1.lt
      go_wp2_with fail
      have hw := HK.out.1.emptied (N' := N) (by have := HB.out.1.numS; rw [HK.out.2.2.2.1]; exact this) (by rw [HK.out.2.2.2.2.1]; exact HB.out.1.numN)
      have e : ({ d.part d.wait.length with wait := [] } : Dk) = d.settle := by unfold Dk.part Dk.settle; rw [List.take_of_length_le (Nat.le_refl _)]
      rw [e] at hw
      exact ⟨rfl, .tuple #[], results_void rfl _ _, rfl, ⟨Dk.settle_ok HB.out.2.1, _, hw.1⟩, HK.out.2.2.2.2.2.trans hw.2⟩
end Go.Proofs.YtlpnhfceblbllaaDoor
