/- The contract of Lent: no statement is proved here. -/
import Derived.Test.YtgcbcmhdlgklgaaDoorMark
import Derived.Deep.RegionLaw
namespace Go.Proofs.YtgcbcmhdlgklgaaDoor
open Go.RowKit
set_option maxRecDepth 100000

theorem make_lent {P : Program} (t e : TypeId) (z : Value) (size bytes : Nat) (ht : P.underlying t = some (.slice e)) (hi : (P.info? e).map (fun i => (i.zero, i.size, i.bytes)) = some (some z, size, bytes)) (n : Nat) (hb : bytes * (n + 1) ≤ 281474976710656) (hc : n + 1 ≤ 9223372036854775807) :
    ∃ cur : Array Value, cur.size = (n + 1) * size ∧ ∀ w : World, (Instr.makeSlice t (.int .i64 0) (.int .i64 ((n : Int) + 1))).run P w = .ok (.slice (some ⟨w.heap.size, 0, none⟩) 0 (n + 1)) (w.alloc (.cells cur e)) := by
  obtain ⟨cur, h1, h2⟩ := make_any t e z size bytes ht hi 0 (n + 1) (by omega) hb hc
  exact ⟨cur, h1, fun w => by have := h2 w; simpa using this⟩
theorem news_at (w : World) (cs : Array Value) (t : TypeId) (g : Nat) (hg : g = w.heap.size) : ∀ j u, cs.toList[j]? = some u → (w.alloc (.cells cs t)).cell? ((⟨g, 0, none⟩ : Addr).add j) = some u := by
  subst hg
  exact World.news_of_block (heap_alloc_new w _)
/-- append within the capacity, as one step of a region that draws. -/
theorem step_append_fits {P : Program} {ops : Array Oper} {o : Oper} {a : Act} {w : World} {K : Act → World → Prop} {Q : Exit → Act → World → Prop} {E : Prop}
    (hgd : o.guard = none) (s x : Operand) (t : TypeId) (hop : o.op = Op.call { callee := Callee.builtin Builtin.append, args := #[s, x], argTypes := #[t, t] })
    (base : Nat) (e : TypeId) (i : TypeInfo) (size : Nat) (h1 : P.underlying t = some (.slice e)) (h2 : P.info? e = some i) (h4 : i.size = size)
    (g k cap : Nat) (xs : List Value) (hs : a.eval s = .slice (some ⟨g, 0, none⟩) k cap) (hown : w.ownsRow base e size (.slice (some ⟨g, 0, none⟩) k cap) k xs)
    (ad : Addr) (m c : Nat) (news : List Value) (hx : a.eval x = .slice (some ad) m c) (hn : news.length = m * size) (hc : ∀ j u, news[j]? = some u → w.cell? (ad.add j) = some u) (h1c : ∀ u ∈ news, u.oneCell' = true) (b1 : k + m ≤ cap)
    (hK : ∀ w', w'.ownsRow base e size (.slice (some ⟨g, 0, none⟩) (k + m) cap) (k + m) (xs ++ news) → w.grownBy w' (some g) → K (a.put o.dst (.slice (some ⟨g, 0, none⟩) (k + m) cap)) w') :
    if Region.wanted o (yielded ops a.tmps) = true then Oper.wp P o a w K Q else E := by
  have hw : Region.wanted o (yielded ops a.tmps) = true := by simp [Region.wanted, hgd]
  rw [if_pos hw]
  obtain ⟨w', hrun, r1, r2⟩ := run_append_fits (P := P) w base t o.type e i size h1 h2 h4 g k cap xs hown ad m c news hn hc h1c b1
  unfold Oper.wp
  simp [execOp, hop, resolve, invoke, builtin, hs, hx, hrun, Result.andThen]
  exact hK w' r1 r2

theorem below_only2 {w1 w2 : World} {X Y : Obj} {g : Nat} (h : ((w1.alloc X).alloc Y).grownBy w2 (some g)) : Only [g] w1 w2 := (Only.of_below (below2 w1 X Y)).trans (Only.of_grown h)
theorem below_drawn (w : World) (X Y : Obj) : Below w.heap.size w (((w.alloc X).drew).alloc Y) := ((below1 w X).drew).alloc (by simp) Y
theorem below_only3 {w1 w2 : World} {X Y : Obj} {g : Nat} (h : (((w1.alloc X).drew).alloc Y).grownBy w2 (some g)) : Only [g] w1 w2 := (Only.of_below (below_drawn w1 X Y)).trans (Only.of_grown h)
def LentAt (t : T) : Prop := ∀ w : World, t.In w → Calls Tryd.prog 9 #[t.arg] w (LendsTo t w)

set_option maxHeartbeats 4000000 in
theorem lent_any (t : T) : t.ok → LentAt t := by
  induction t using T.ind with
  | h kx nx sx lax lcx lx dax dcx dx ihl ihd =>
  intro ok w hin
  show Calls _ _ #[.agg #[.int .i64 kx, .int .i64 nx, .string sx, .slice lax lx.length lcx, .slice dax dx.length dcx]] _ _
  have HOK := Lib.hid ok
  obtain ⟨-, -, -, -, hs, hl1, hl2, hd1, hd2, okl, okd⟩ := ok.parts
  obtain ⟨i0, hi0, hz0, hz1, hz2⟩ := info_parts info_value
  obtain ⟨i1, hi1, hy0, hy1, hy2⟩ := info_parts info_field
  obtain ⟨cur1, hcur1, hmk1⟩ := make_lent (P := Tryd.prog) 27 30 _ 5 80 Tryd.underlying27 info_value lx.length (by omega) (by omega)
  obtain ⟨cur2, hcur2, hmk2⟩ := make_lent (P := Tryd.prog) 28 54 _ 6 96 Tryd.underlying28 info_field dx.length (by omega) (by omega)
  have HC1 := Lib.hid hcur1
  have HC2 := Lib.hid hcur2
  have IHL := Lib.hid (fun x hx => ihl x hx (okl x hx))
  have IHD := Lib.hid (fun x hx => ihd x hx (okd x hx).2)
  have HIN := Lib.hid hin
  have OKD := Lib.hid okd
  have I0 := Lib.hid (And.intro hi0 hz1)
  have I1 := Lib.hid (And.intro hi1 hy1)
  clear ihl ihd okl okd hin ok hcur1 hcur2 hi0 hz0 hz1 hz2 hi1 hy0 hy1 hy2
  go_enter Tryd.func9, Tryd.ntmps9
  go_wp2_with fail
  simp only [Nat.add_assoc, Nat.reduceAdd]
  go_loopw [4, 5] (fun i _ wr => ∃ (k : Nat) (ts : List T), k ≤ lx.length ∧ i = .int .i64 k ∧ LentRel (.mk kx nx sx lax lcx lx dax dcx dx) w wr k 0 ts []) (fun i _ _ => lx.length - (intOf i).toNat)
  case atStart => exact ⟨0, [], by omega, rfl, lent_start rfl rfl rfl HC1.out HC2.out (by omega) (by omega)⟩
  case round =>
    clear hmk1 hmk2
    obtain ⟨k, ts, hk, rfl, R⟩ := hrel
    have HR := Lib.hid R
    have q1 : ∀ o, wr.cell? ⟨w.heap.size, o, none⟩ = (#[.int .i64 kx, .int .i64 nx, .string sx, .slice lax lx.length lcx, .slice dax dx.length dcx] : Array Value)[o]? := row_cells R.box1
    have hbel := R.below
    clear R
    by_cases h1 : k < lx.length
    · obtain ⟨b, o, k1, n1, s1, la1, lc1, l1, da1, dc1, d1, rfl, hx, hix, x0, x1, x2, x3, x4⟩ := (HIN.out.parts.1.then_ hbel).five h1
      have H := Lib.hid (IHL.out _ (List.mem_of_getElem? hx))
      have HX := Lib.hid hx
      clear hx
      go_wp2_with (first
        | (go_at_call 9; refine (H.out _ hix).mono ?_; rintro e w1 ⟨⟨k', n', s', la', lc', l', da', dc', d'⟩, rfl, hv', hm', hb1⟩; dsimp only [T.arg, T.cells]; have HM := Lib.hid hm'; have HV := Lib.hid hv'; clear hm' hv'; have c1 : ∀ X o, (w1.alloc X).cell? ⟨w.heap.size + 2, o, none⟩ = (#[.int .i64 kx, .int .i64 nx, .string sx, .slice (some ⟨w.heap.size + 3, 0, none⟩) k (lx.length + 1), .slice (some ⟨w.heap.size + 4, 0, none⟩) 0 (dx.length + 1)] : Array Value)[o]? := fun X => row_cells (row_then (row_then HR.out.box3 hb1) (below1 _ X)); have hz1 : w.heap.size + 5 ≤ w1.heap.size := Nat.le_trans HR.out.size hb1.size)
        | (at_builtin; refine wpList_append_fits _ rfl _ _ 27 rfl w.heap.size 30 i0 5 Tryd.underlying27 I0.out.1 I0.out.2 (w.heap.size + 3) k (lx.length + 1) _ rfl (((row_keep HR.out.row1 hb1).alloc _).alloc _) _ 1 1 [.int .i64 k', .int .i64 n', .string s', .slice la' l'.length lc', .slice da' d'.length dc'] rfl rfl (news_at _ _ _ _ (by simp)) (by simp [Value.oneCell']) (by omega) ?_; intro w2 hown2 hgrow2; have B2 := keep_row (Only.of_grown hgrow2) (row_then (row_then HR.out.box3 hb1) (below2 _ _ _)) (by simp); have c2 : ∀ o, w2.cell? ⟨w.heap.size + 2, o, none⟩ = (#[.int .i64 kx, .int .i64 nx, .string sx, .slice (some ⟨w.heap.size + 3, 0, none⟩) k (lx.length + 1), .slice (some ⟨w.heap.size + 4, 0, none⟩) 0 (dx.length + 1)] : Array Value)[o]? := row_cells B2; have f2 : ∀ o, w2.frozen? ⟨w.heap.size + 2, o, none⟩ = false := fun o => frozen_of_row _ _ _ _ _ B2; clear B2))
      have HS := lent_stepL HR.out HX.out hb1 HM.out (Nat.le_refl _) HV.out ((below_only2 hgrow2)) hown2
      go_roundw
      case rel => exact ⟨k + 1, _, by omega, by go_num, HS⟩
      case measure => simp [intOf]; omega
    · have hkl : k = lx.length := by omega
      subst hkl
      go_wp2_with fail
      clear q1 hbel
      obtain ⟨wo, rfl⟩ : ∃ wo : World, wo = wr := ⟨_, rfl⟩
      go_loopw [6, 7] (fun i _ wr => ∃ (j : Nat) (fs : List (ByteArray × T)), j ≤ dx.length ∧ i = .int .i64 j ∧ LentRel (.mk kx nx sx lax lcx lx dax dcx dx) w wr lx.length j ts fs) (fun i _ _ => dx.length - (intOf i).toNat)
      case atStart => exact ⟨0, [], by omega, rfl, HR.out⟩
      case round =>
        clear HR
        obtain ⟨j, fs, hj, rfl, R⟩ := hrel
        have HR := Lib.hid R
        have q1 : ∀ o, wr.cell? ⟨w.heap.size, o, none⟩ = (#[.int .i64 kx, .int .i64 nx, .string sx, .slice lax lx.length lcx, .slice dax dx.length dcx] : Array Value)[o]? := row_cells R.box1
        have hbel := R.below
        clear R
        by_cases h1 : j < dx.length
        · obtain ⟨b, o, f1, k1, n1, s1, la1, lc1, l1, da1, dc1, d1, rfl, hx, hix, x0, x1, x2, x3, x4, x5⟩ := (HIN.out.parts.2.then_ hbel).six h1
          have H := Lib.hid (IHD.out _ (List.mem_of_getElem? hx))
          have HX := Lib.hid hx
          have hblt : b < wr.heap.size := cell_lt x0
          clear hx
          have j0 : (0 : Int) ≤ (j : Int) := by omega
          have j1 : (j : Int) < (dx.length : Int) := by omega
          go_wp2_with (go_at_call 9; refine (H.out _ hix).mono ?_; rintro e w1 ⟨⟨k', n', s', la', lc', l', da', dc', d'⟩, rfl, hv', hm', hb1⟩; dsimp only [T.arg, T.cells]; have HM := Lib.hid hm'; have HV := Lib.hid hv'; clear hm' hv'; have c1 : ∀ X i, (w1.alloc X).cell? ⟨w.heap.size + 2, i, none⟩ = (#[.int .i64 kx, .int .i64 nx, .string sx, .slice (some ⟨w.heap.size + 3, 0, none⟩) lx.length (lx.length + 1), .slice (some ⟨w.heap.size + 4, 0, none⟩) j (dx.length + 1)] : Array Value)[i]? := fun X => row_cells (row_then (row_then HR.out.box3 hb1) (below1 _ X)); have c3 : ∀ X Y i, ((w1.alloc X).alloc Y).cell? ⟨w.heap.size + 2, i, none⟩ = (#[.int .i64 kx, .int .i64 nx, .string sx, .slice (some ⟨w.heap.size + 3, 0, none⟩) lx.length (lx.length + 1), .slice (some ⟨w.heap.size + 4, 0, none⟩) j (dx.length + 1)] : Array Value)[i]? := fun X Y => row_cells (row_then (row_then HR.out.box3 hb1) (below2 _ X Y)); have c0 : ∀ X i, (w1.alloc X).cell? ⟨w.heap.size, i, none⟩ = (#[.int .i64 kx, .int .i64 nx, .string sx, .slice lax lx.length lcx, .slice (some ⟨b, o, none⟩) dx.length dcx] : Array Value)[i]? := fun X => row_cells (row_then (row_then HR.out.box1 hb1) (below1 _ X)); have hz1 : w.heap.size + 5 ≤ w1.heap.size := Nat.le_trans HR.out.size hb1.size)
          have z0 : ∀ X, (w1.alloc X).cell? ⟨b, o + j * 6, none⟩ = some (.string f1) := fun X => ((below_then hb1 (below1 _ X)).cell hblt).trans x0
          have n0 : w.heap.size + 2 ≠ w.heap.size + 4 := by omega
          go_region_law (refine step_append_fits rfl (.tmp 57) (.tmp 66) 28 rfl w.heap.size 54 i1 6 Tryd.underlying28 I1.out.1 I1.out.2 (w.heap.size + 4) j (dx.length + 1) _ (by simp [Act.eval]) ((((row_keep HR.out.row2 hb1).alloc _).drew).alloc _) ⟨w1.heap.size + 1, 0, none⟩ 1 1 [.string f1, .int .i64 k', .int .i64 n', .string s', .slice la' l'.length lc', .slice da' d'.length dc'] (by simp [Act.eval]) rfl (news_at _ _ _ _ (by simp)) (by simp [Value.oneCell']) (by omega) ?_; intro w2 hown2 hgrow2; have B2 := keep_row (Only.of_grown hgrow2) (row_then (row_then HR.out.box3 hb1) (below_drawn _ _ _)) (by simp); have c2 : ∀ i, w2.cell? ⟨w.heap.size + 2, i, none⟩ = (#[.int .i64 kx, .int .i64 nx, .string sx, .slice (some ⟨w.heap.size + 3, 0, none⟩) lx.length (lx.length + 1), .slice (some ⟨w.heap.size + 4, 0, none⟩) j (dx.length + 1)] : Array Value)[i]? := row_cells B2; have f2 : ∀ i, w2.frozen? ⟨w.heap.size + 2, i, none⟩ = false := fun i => frozen_of_row _ _ _ _ _ B2; clear B2)
          all_goals
            go_wp2_with fail
            have HS := lent_stepD HR.out HX.out (OKD.out _ (List.mem_of_getElem? HX.out)).1 hb1 HM.out (Nat.le_refl _) HV.out (below_only3 hgrow2) hown2
            go_roundw
            case rel => exact ⟨j + 1, _, by omega, by go_num, HS⟩
            case measure => simp [intOf]; omega
        · have hjl : j = dx.length := by omega
          subst hjl
          have q2 : ∀ X i, (wr.alloc X).cell? ⟨w.heap.size + 2, i, none⟩ = (#[.int .i64 kx, .int .i64 nx, .string sx, .slice (some ⟨w.heap.size + 3, 0, none⟩) lx.length (lx.length + 1), .slice (some ⟨w.heap.size + 4, 0, none⟩) dx.length (dx.length + 1)] : Array Value)[i]? := fun X => row_cells (row_then HR.out.box3 (below1 _ X))
          have q3 : ∀ i, wr.cell? ⟨w.heap.size + 2, i, none⟩ = (#[.int .i64 kx, .int .i64 nx, .string sx, .slice (some ⟨w.heap.size + 3, 0, none⟩) lx.length (lx.length + 1), .slice (some ⟨w.heap.size + 4, 0, none⟩) dx.length (dx.length + 1)] : Array Value)[i]? := row_cells HR.out.box3
          have tok1 : True := trivial
          go_wp2_with (first
            | (at_builtin; have tk := tok1; refine wpList_append_fits _ rfl (.tmp 70) (.tmp 72) 27 rfl w.heap.size 30 i0 5 Tryd.underlying27 I0.out.1 I0.out.2 (w.heap.size + 3) lx.length (lx.length + 1) _ rfl (HR.out.row1.alloc _) _ 1 1 markV rfl rfl (news_at _ #[.int .i64 (-7), .int .i64 0, .string ⟨#[]⟩, .slice none 0 0, .slice none 0 0] _ _ rfl) (by simp [markV, Value.oneCell']) (by omega) ?_; intro w2 hown2 hgrow2; clear tk tok1; have h02 : Only [w.heap.size + 3] wr w2 := (Only.of_below (below1 _ _)).trans (Only.of_grown hgrow2); have c2 : ∀ i, w2.cell? ⟨w.heap.size + 2, i, none⟩ = (#[.int .i64 kx, .int .i64 nx, .string sx, .slice (some ⟨w.heap.size + 3, 0, none⟩) lx.length (lx.length + 1), .slice (some ⟨w.heap.size + 4, 0, none⟩) dx.length (dx.length + 1)] : Array Value)[i]? := row_cells (keep_row h02 HR.out.box3 (by simp)))
            | (at_builtin; refine wpList_append_fits _ rfl (.tmp 75) (.tmp 77) 28 rfl w.heap.size 54 i1 6 Tryd.underlying28 I1.out.1 I1.out.2 (w.heap.size + 4) dx.length (dx.length + 1) _ rfl ((keep_own HR.out.row2 h02 (by simp)).alloc _) _ 1 1 markD rfl rfl (news_at _ #[.string markText, .int .i64 0, .int .i64 0, .string ⟨#[]⟩, .slice none 0 0, .slice none 0 0] _ _ rfl) (by simp [markD, Value.oneCell']) (by omega) ?_; intro w3 hown3 hgrow3; have h23 : Only [w.heap.size + 4] w2 w3 := (Only.of_below (below1 _ _)).trans (Only.of_grown hgrow3); have b3 := keep_row h23 (keep_row h02 HR.out.box3 (by simp)) (by simp); have b2 := keep_row h23 (keep_row h02 HR.out.box2 (by simp)) (by simp); have b1 := keep_row h23 (keep_row h02 HR.out.box1 (by simp)) (by simp); have d1 : ∀ i, w3.cell? ⟨w.heap.size, i, none⟩ = (#[.int .i64 kx, .int .i64 nx, .string sx, .slice lax lx.length lcx, .slice dax dx.length dcx] : Array Value)[i]? := row_cells b1; have d2 : ∀ i, w3.cell? ⟨w.heap.size + 1, i, none⟩ = (#[.int .i64 0, .int .i64 0, .string ⟨#[]⟩, .slice none 0 0, .slice none 0 0] : Array Value)[i]? := row_cells b2; have d3 : ∀ i, w3.cell? ⟨w.heap.size + 2, i, none⟩ = (#[.int .i64 kx, .int .i64 nx, .string sx, .slice (some ⟨w.heap.size + 3, 0, none⟩) lx.length (lx.length + 1), .slice (some ⟨w.heap.size + 4, 0, none⟩) dx.length (dx.length + 1)] : Array Value)[i]? := row_cells b3; have f2 : ∀ i, w3.frozen? ⟨w.heap.size + 1, i, none⟩ = false := fun i => frozen_of_row _ _ _ _ _ b2; have f3 : ∀ i, w3.frozen? ⟨w.heap.size + 2, i, none⟩ = false := fun i => frozen_of_row _ _ _ _ _ b3; clear b1 b2 b3))
          refine bodyPost_ret (v := .agg #[.int .i64 kx, .int .i64 nx, .string sx, .slice (some ⟨w.heap.size + 3, 0, none⟩) lx.length (lx.length + 1), .slice (some ⟨w.heap.size + 4, 0, none⟩) dx.length (dx.length + 1)]) (by simp [results, Tryd.results9, go_sem, d2]) rfl ?_
          exact lent_end HOK.out HR.out h02 hown2 h23 hown3 (((((((((Only.refl [w.heap.size + 2, w.heap.size + 1] w3).setCell (p := ⟨w.heap.size + 2, 3, none⟩) (.inl (by simp)) _).setCell (p := ⟨w.heap.size + 2, 4, none⟩) (.inl (by simp)) _).setCell (p := ⟨w.heap.size + 1, 0, none⟩) (.inl (by simp)) _).setCell (p := ⟨w.heap.size + 1, 1, none⟩) (.inl (by simp)) _).setCell (p := ⟨w.heap.size + 1, 2, none⟩) (.inl (by simp)) _).setCell (p := ⟨w.heap.size + 1, 3, none⟩) (.inl (by simp)) _).setCell (p := ⟨w.heap.size + 1, 4, none⟩) (.inl (by simp)) _))
end Go.Proofs.YtgcbcmhdlgklgaaDoor
