/- Two rows of records held against each other. Rows of bytes of a call's own that need not begin where their block does. What layer 15's statements need of the program's frames: its calls' contracts, in one; and the document's examples. No statement is proved here. -/
import Derived.Test.YtophhnolnlbecaaDoorQ22
import Derived.Test.YtophhnolnlbecaaDoorQ21
import Derived.Test.YtophhnolnlbecaaDoorQ19
import Derived.Test.YtophhnolnlbecaaDoorQ17
import Derived.Test.YtophhnolnlbecaaDoorQ12
namespace Go.Proofs.YtophhnolnlbecaaDoor
open Go.RowKit
set_option maxRecDepth 100000

set_option maxHeartbeats 8000000 in
theorem same_any (aa : Option Addr) (na ca : Nat) (la : List (List Int)) (ab : Option Addr) (nb cb : Nat) (lb : List (List Int)) (w : World) (ha : InRR w aa la) (hna : la.length = na) (hb : InRR w ab lb) (hnb : lb.length = nb) (hN : na ≤ 140737488351232) :
    Calls Tryd.prog 17 #[.slice aa na ca, .slice ab nb cb] w fun en w' => en = .returned (.bool (decide (la = lb))) ∧ Below w.heap.size w w' := by
  have HA := Lib.hid (And.intro ha (And.intro hna (And.intro hb hnb)))
  clear ha hb
  by_cases hne : na = nb
  rotate_left
  · have q : ((na : Int) != (nb : Int)) = true := by simp; omega
    have HE := Lib.hid (show decide (la = lb) = false from decide_eq_false fun h => hne (by rw [← hna, ← hnb, h]))
    clear hne hna hnb
    go_enter Tryd.func17, Tryd.ntmps17
    go_wp2_with fail
    go_ret
    exact ⟨by rw [HE.out]; rfl, Below.refl _ _⟩
  subst hne
  clear hna hnb
  go_enter Tryd.func17, Tryd.ntmps17
  go_wp2_with fail
  go_loopw [5] (fun i wr => ∃ k : Nat, k ≤ na ∧ i = .int .i64 (k : Int) ∧ Hid (Below w.heap.size w wr ∧ ∀ j, j < k → la[j]? = lb[j]?)) (fun i _ => na - (intOf i).toNat)
  case atStart => exact ⟨0, Nat.zero_le _, rfl, Lib.hid ⟨Below.refl _ _, fun j hj => by omega⟩⟩
  case round =>
    obtain ⟨k, hk, rfl, HK⟩ := hrel
    by_cases hlt : k < na
    · obtain ⟨x, hx⟩ : ∃ x, la[k]? = some x := ⟨_, List.getElem?_eq_getElem (by rw [HA.out.2.1]; exact hlt)⟩
      obtain ⟨y, hy⟩ : ∃ y, lb[k]? = some y := ⟨_, List.getElem?_eq_getElem (by rw [HA.out.2.2.2]; exact hlt)⟩
      obtain ⟨b, o, ax, cx, rfl, hc, hi, hnil, -, -, hB⟩ := HA.out.1 k x hx
      obtain ⟨b', o', ax', cx', rfl, hc', hi', hnil', -, -, hB'⟩ := HA.out.2.2.1 k y hy
      have hd := (below_then HK.out.1 (Below.refl wr.heap.size wr).drew)
      have c1 : wr.drew.cell? ⟨b, o + k, none⟩ = some (.slice ax x.length cx) := (hd.cell (p := ⟨b, o + k, none⟩) (cell_lt hc)).trans hc
      have c2 : wr.drew.cell? ⟨b', o' + k, none⟩ = some (.slice ax' y.length cx') := (hd.cell (p := ⟨b', o' + k, none⟩) (cell_lt hc')).trans hc'
      have s1 := run_str wr.drew ax x.length cx x rfl (hi.then_ hd) (fun h => (hnil h).2)
      have s2 := run_str wr.drew ax' y.length cx' y rfl (hi'.then_ hd) (fun h => (hnil' h).2)
      have HEq := Lib.hid (strEq hB hB')
      have HXY := Lib.hid (And.intro hx hy)
      have HD := Lib.hid hd
      clear hx hy hc hc' hi hi' hB hB' hd hnil hnil'
      generalize strOfNums x = S1 at *
      generalize strOfNums y = S2 at *
      by_cases he : x = y
      · have q := HEq.out
        rw [decide_eq_true he] at q
        have HQ := Lib.hid he
        clear he
        go_wp2_with fail
        go_region
        clear c1 c2 s1 s2 q
        go_wp2_with fail
        go_roundw
        case rel => exact ⟨k + 1, by omega, by go_num, Lib.hid ⟨HD.out, fun j hj => by
          rcases Nat.lt_or_ge j k with h | h
          · exact HK.out.2 j h
          · rw [show j = k by omega, HXY.out.1, HXY.out.2, HQ.out]⟩⟩
        case measure => simp [intOf]; omega
      · have q := HEq.out
        rw [decide_eq_false he] at q
        have HE := Lib.hid (show decide (la = lb) = false from decide_eq_false fun h => he (by
          have h1 := HXY.out.1
          rw [h, HXY.out.2] at h1
          injection h1 with h1
          exact h1.symm))
        clear he
        go_wp2_with fail
        go_region
        clear c1 c2 s1 s2 q
        go_wp2_with fail
        go_ret
        exact ⟨by rw [HE.out]; rfl, HD.out⟩
    · have hkn : k = na := by omega
      subst hkn
      have HE := Lib.hid (show decide (la = lb) = true from decide_eq_true (List.ext_getElem? fun j => by
        rcases Nat.lt_or_ge j k with h | h
        · exact HK.out.2 j h
        · rw [List.getElem?_eq_none (by rw [HA.out.2.1]; exact h), List.getElem?_eq_none (by rw [HA.out.2.2.2]; exact h)]))
      go_wp2_with fail
      go_ret
      exact ⟨by rw [HE.out]; rfl, HK.out.1⟩
end Go.Proofs.YtophhnolnlbecaaDoor
namespace Go.Proofs.YtophhnolnlbecaaDoor
open Go.RowKit
set_option maxRecDepth 100000

def OwnO (w : World) (B : Nat) (v : Value) (l : List Int) : Prop :=
  OwnB w B v l ∨ ∃ g o c cur, v = .slice (some ⟨g, o, none⟩) l.length c ∧ B ≤ g ∧ w.heap[g]? = some (.cells cur 5 (0, 0)) ∧ o + c ≤ cur.size ∧ l.length ≤ c ∧ c ≤ maxLen ∧ (cur.toList.drop o).take l.length = btV l
section
variable {w w' : World} {B B' : Nat} {v : Value} {l : List Int}
theorem OwnB.o (h : OwnB w B v l) : OwnO w B v l := .inl h
theorem OwnO.block (h : OwnO w B v l) : ∀ g, v.ownBlock = some g → B ≤ g ∧ g < w.heap.size := by
  rcases h with h | ⟨g, o, c, cur, rfl, hB, hg, -⟩
  · exact h.block
  · intro g' e
    injection e with e
    subst e
    exact ⟨hB, lt_of_block hg⟩
theorem OwnO.keep (h : OwnO w B v l) (hb : ∀ g, v.ownBlock = some g → w'.heap[g]? = w.heap[g]?) : OwnO w' B v l := by
  rcases h with h | ⟨g, o, c, cur, rfl, hB, hg, r⟩
  · exact .inl (h.keep hb)
  · exact .inr ⟨g, o, c, cur, rfl, hB, (hb g rfl).trans hg, r⟩
theorem OwnO.then_ (h : OwnO w B v l) (hb : Below w.heap.size w w') : OwnO w' B v l := h.keep fun g hg => hb.block g (h.block g hg).2
theorem OwnO.base (h : OwnO w B v l) (hB : B' ≤ B) : OwnO w B' v l := by
  rcases h with h | ⟨g, o, c, cur, rfl, hB', hg, r⟩
  · exact .inl (h.base hB)
  · exact .inr ⟨g, o, c, cur, rfl, Nat.le_trans hB hB', hg, r⟩
theorem off_cell {g o : Nat} {cur : Array Value} (hg : w.heap[g]? = some (.cells cur 5 (0, 0))) (hr : (cur.toList.drop o).take l.length = btV l) {i : Nat} {x : Int} (hx : l[i]? = some x) : w.cell? ⟨g, o + i, none⟩ = some (.int .u8 x) ∧ w.frozen? ⟨g, o + i, none⟩ = false := by
  have hi := lt_of_get hx
  have h1 : (btV l)[i]? = some (.int .u8 x) := by simp [btV, hx]
  rw [← hr, List.getElem?_take, if_pos hi, List.getElem?_drop] at h1
  rw [Array.getElem?_toList] at h1
  refine ⟨?_, ?_⟩
  · rw [row_cells hg]; exact h1
  · unfold World.frozen?
    simp [hg]
theorem OwnO.shape (h : OwnO w B v l) : ∃ a c, v = .slice a l.length c ∧ InB w a l ∧ (a = none → c = 0 ∧ l = []) ∧ l.length ≤ c ∧ c ≤ maxLen := by
  rcases h with h | ⟨g, o, c, cur, rfl, hB, hg, hs, hl, hc, hr⟩
  · exact h.shape
  · exact ⟨_, c, rfl, fun i x hx => ⟨g, o, rfl, (off_cell hg hr hx).1⟩, fun e => (by cases e), hl, hc⟩
theorem OwnO.spot (h : OwnO w B v l) {a : Option Addr} {n c : Nat} (hv : v = .slice a n c) : ∀ ad, a = some ad → ad.spot = none := by
  subst hv
  rcases h with h | ⟨g, o, c', cur, e, -⟩
  · exact ownB_spot h
  · injection e with e
    subst e
    intro ad e
    injection e with e
    subst e
    rfl
theorem OwnO.only {S : List Nat} (h : OwnO w B v l) (ho : Only S w w') (hS : ∀ g, v.ownBlock = some g → g ∉ S) : OwnO w' B v l := h.keep fun g hg => ho.block g (h.block g hg).2 (hS g hg)
end
/-- What stands behind the first twenty bytes of such a row. -/
theorem own_behind {g n c : Nat} (hc : 20 + n ≤ c) : ∃ k c', (∀ w, (Instr.slice 22 (.slice (some ⟨g, 0, none⟩) (20 + n) c) (some (.int .i64 20)) none none).run Tryd.prog w = .ok (.slice (some ⟨g, k, none⟩) n c') w) ∧
    ∀ (w : World) (B : Nat) (F : List Int), F.length = 20 + n → OwnB w B (.slice (some ⟨g, 0, none⟩) (20 + n) c) F → OwnO w B (.slice (some ⟨g, k, none⟩) n c') (F.drop 20) := by
  have get : ∀ (w : World) (B : Nat) (F : List Int), OwnB w B (.slice (some ⟨g, 0, none⟩) (20 + n) c) F → ∃ cur, B ≤ g ∧ w.heap[g]? = some (.cells cur 5 (0, 0)) ∧ cur.size = c ∧ c ≤ maxLen ∧ cur.toList.take F.length = btV F := fun w B F h => by
    obtain ⟨h1, h2⟩ := h
    rcases h2 with ⟨hv, -⟩ | ⟨g', cap, cur, hv, hb, hgc, hle, hcm, hsz, htk⟩
    · cases hv
    · injection hv with e1 e2 e3
      injection e1 with e1
      injection e1 with e1
      subst e1 e3
      exact ⟨cur, hb, hgc, by omega, hcm, by simpa using htk⟩
  by_cases hne : c = 20
  · refine ⟨0, 0, fun w => ?_, fun w B F hF h => ?_⟩
    · rw [run_slice_l w 22 _ _ _ (by kernel_rfl) .i64 _ (by omega) (by omega)]
      have hn0 : n = 0 := by omega
      simp [go_sem, sliced, hne, hn0]
    · obtain ⟨cur, hb, hg, hs, hcm, -⟩ := get w B F h
      have hz : F.drop 20 = [] := List.drop_eq_nil_of_le (by omega)
      rw [hz]
      exact .inr ⟨g, 0, 0, cur, by rw [show n = 0 by omega]; rfl, hb, hg, by omega, Nat.le_refl _, Nat.zero_le _, by simp [btV]⟩
  · refine ⟨20, c - 20, fun w => ?_, fun w B F hF h => ?_⟩
    · rw [run_slice_l w 22 _ _ _ (by kernel_rfl) .i64 _ (by omega) (by omega)]
      rw [show sizeOf (Tryd.prog.elem 22) = sizeOf 5 from rfl]
      simp [go_sem, sliced, hne]
    · obtain ⟨cur, hb, hg, hs, hcm, hr⟩ := get w B F h
      refine .inr ⟨g, 20, c - 20, cur, by rw [List.length_drop, hF, show 20 + n - 20 = n by omega], hb, hg, by omega, by rw [List.length_drop]; omega, by omega, ?_⟩
      have e : btV (F.drop 20) = (btV F).drop 20 := by simp [btV]
      rw [e, ← hr, List.drop_take, List.length_drop]
/-- A row of rows of a call's own: each row in a block of its own. -/
structure OwnRO (w : World) (B : Nat) (v : Value) (rs : List (Value × List Int)) : Prop where
  row : w.ownsRow B 22 1 v rs.length (rs.map (·.1))
  own : ∀ (i : Nat) (x : Value) (l : List Int), rs[i]? = some (x, l) → OwnO w B x l
  off : ∀ (i : Nat) (x : Value) (l : List Int), rs[i]? = some (x, l) → ∀ g, x.ownBlock = some g → v.ownBlock ≠ some g
  apart : ∀ (i j : Nat) (x : Value) (l : List Int) (x' : Value) (l' : List Int), rs[i]? = some (x, l) → rs[j]? = some (x', l') → i ≠ j → ∀ g, x.ownBlock = some g → x'.ownBlock ≠ some g
theorem one_sliceO {w : World} {B : Nat} {x : Value} {l : List Int} (h : OwnO w B x l) : x.oneCell' = true := by
  obtain ⟨a, c, rfl, -⟩ := h.shape
  rfl
section
variable {w w' : World} {B B' : Nat} {v : Value} {rs rs2 : List (Value × List Int)}
theorem OwnRO.nil (w : World) (B : Nat) : OwnRO w B (.slice none 0 0) [] := ⟨World.ownsRow_nil _ _ _ _, fun i x l h => by simp at h, fun i x l h => by simp at h, fun i j x l x' l' h => by simp at h⟩
theorem OwnRO.block (h : OwnRO w B v rs) : ∀ g, v.ownBlock = some g → B ≤ g ∧ g < w.heap.size := World.ownsRow.lt h.row
theorem OwnRO.keep (h : OwnRO w B v rs) (hv : ∀ g, v.ownBlock = some g → w'.heap[g]? = w.heap[g]?) (hr : ∀ (i : Nat) (x : Value) (l : List Int), rs[i]? = some (x, l) → ∀ g, x.ownBlock = some g → w'.heap[g]? = w.heap[g]?) : OwnRO w' B v rs :=
  ⟨rr_keep h.row hv, fun i x l e => (h.own i x l e).keep (hr i x l e), h.off, h.apart⟩
theorem OwnRO.then_ (h : OwnRO w B v rs) (hb : Below w.heap.size w w') : OwnRO w' B v rs := h.keep (fun g hg => hb.block g (h.block g hg).2) fun i x l e g hg => hb.block g ((h.own i x l e).block g hg).2
theorem OwnRO.base (h : OwnRO w B v rs) (hB : B' ≤ B) : OwnRO w B' v rs := ⟨rr_base h.row hB, fun i x l e => (h.own i x l e).base hB, h.off, h.apart⟩
/-- It is kept where only blocks have turned that are none of its. -/
theorem OwnRO.only {S : List Nat} (h : OwnRO w B v rs) (ho : Only S w w') (hv : ∀ g, v.ownBlock = some g → g ∉ S) (hr : ∀ (i : Nat) (x : Value) (l : List Int), rs[i]? = some (x, l) → ∀ g, x.ownBlock = some g → g ∉ S) : OwnRO w' B v rs :=
  h.keep (fun g hg => ho.block g (h.block g hg).2 (hv g hg)) fun i x l e g hg => ho.block g ((h.own i x l e).block g hg).2 (hr i x l e g hg)
theorem OwnRO.form (h : OwnRO w B v rs) : ∃ a c, v = .slice a rs.length c ∧ (a = none → c = 0 ∧ rs = []) ∧ rs.length ≤ c ∧ c ≤ maxLen := by
  obtain ⟨h1, h2⟩ := h.row
  rcases h2 with ⟨hv, hz⟩ | ⟨g, cap, cur, hv, hb, hg, hle, hcm, hrest⟩
  · have hz2 : rs = [] := List.eq_nil_of_length_eq_zero hz
    subst hz2
    exact ⟨none, 0, hv, fun _ => ⟨rfl, rfl⟩, Nat.le_refl _, Nat.zero_le _⟩
  · exact ⟨_, cap, hv, fun e => (by cases e), hle, hcm⟩
theorem OwnRO.at_ (h : OwnRO w B v rs) {i : Nat} {x : Value} {l : List Int} (hi : rs[i]? = some (x, l)) : ∃ g c, v = .slice (some ⟨g, 0, none⟩) rs.length c ∧ w.cell? ⟨g, i, none⟩ = some x := by
  have hlt := lt_of_get hi
  have h0 := h.row
  obtain ⟨h1, h2⟩ := h.row
  rcases h2 with ⟨-, hz⟩ | ⟨g, cap, cur, hv, hrest⟩
  · omega
  · refine ⟨g, cap, hv, ?_⟩
    have hc := World.ownsRow.cells h0 (g := g) (by rw [hv]; rfl) i x (by rw [List.getElem?_map, hi]; rfl)
    have e : (⟨g, 0, none⟩ : Addr).add i = ⟨g, i, none⟩ := by unfold Addr.add; split <;> simp_all
    rw [e] at hc
    exact hc
theorem run_apRO (w : World) (ty : TypeId) (B : Nat) (v : Value) (rs : List (Value × List Int)) (h : OwnRO w B v rs) (rs2 : List (Value × List Int)) (hown : ∀ (i : Nat) (x : Value) (l : List Int), rs2[i]? = some (x, l) → OwnO w B x l)
    (hoff : ∀ (i : Nat) (x : Value) (l : List Int), rs2[i]? = some (x, l) → ∀ g, x.ownBlock = some g → v.ownBlock ≠ some g ∧ ∀ (j : Nat) (y : Value) (m : List Int), rs[j]? = some (y, m) → y.ownBlock ≠ some g)
    (hap : ∀ (i j : Nat) (x : Value) (l : List Int) (x' : Value) (l' : List Int), rs2[i]? = some (x, l) → rs2[j]? = some (x', l') → i ≠ j → ∀ g, x.ownBlock = some g → x'.ownBlock ≠ some g)
    (b : Option Addr) (n c : Nat) (hn : rs2.length = n) (h0 : b = none → n = 0 ∧ c = 0) (hcell : ∀ ad, b = some ad → ∀ (i : Nat) (x : Value) (l : List Int), rs2[i]? = some (x, l) → w.cell? (ad.add i) = some x) (hl : (rs.length + n) * 24 ≤ 140737488355328) (hB : B ≤ w.heap.size) :
    ∃ v' w', (Builtin.append_ #[30, 30] ty #[v, .slice b n c]).run Tryd.prog w = .ok v' w' ∧ OwnRO w' B v' (rs ++ rs2) ∧ w.grownBy w' v.ownBlock ∧ (v'.ownBlock = v.ownBlock ∨ v'.ownBlock = some w.heap.size) := by
  obtain ⟨i0, hi0, hz0, hz1, hz2⟩ := info_parts info_row
  subst hn
  have hone : ∀ u ∈ rs2.map (·.1), u.oneCell' = true := fun u hu => by
    obtain ⟨p, hp, rfl⟩ := List.mem_map.1 hu
    obtain ⟨i, hi⟩ := List.mem_iff_getElem?.1 hp
    exact one_sliceO (hown i p.1 p.2 hi)
  have hr : ∃ v' w', (Builtin.append_ #[30, 30] ty #[v, .slice b rs2.length c]).run Tryd.prog w = .ok v' w' ∧ w'.ownsRow B 22 1 v' (rs.length + rs2.length) (rs.map (·.1) ++ rs2.map (·.1)) ∧ w.grownBy w' v.ownBlock ∧ (v'.ownBlock = v.ownBlock ∨ v'.ownBlock = some w.heap.size) := by
    cases b with
    | none =>
      obtain ⟨e1, rfl⟩ := h0 rfl
      have e2 : rs2 = [] := List.eq_nil_of_length_eq_zero e1
      subst e2
      exact ⟨v, w, run_append_owned_none (P := Tryd.prog) (w := w) B 30 ty 22 i0 1 Tryd.underlying30 hi0 v rs.length (rs.map (·.1)) h.row, by simpa using h.row, World.grownBy.refl _ _, .inl rfl⟩
    | some ad =>
      obtain ⟨v', w', hr, h1, h2, -, h4⟩ := run_append_own_at (P := Tryd.prog) w B 30 ty 22 i0 _ 1 24 Tryd.underlying30 hi0 hz0 hz1 hz2 rfl (by decide) v rs.length (rs.map (·.1)) h.row ad rs2.length c (rs2.map (·.1)) (by rw [List.length_map]; omega) (fun j u hj => by
        rw [List.getElem?_map, Option.map_eq_some_iff] at hj
        obtain ⟨p, hp, rfl⟩ := hj
        exact hcell ad rfl j p.1 p.2 hp) hone (by unfold maxLen; omega) hl hB
      exact ⟨v', w', hr, h1, h2, h4⟩
  obtain ⟨v', w', hr, h1, h2, h4⟩ := hr
  refine ⟨v', w', hr, ?_, h2, h4⟩
  have kx : ∀ (x : Value) (l : List Int), OwnO w B x l → (∀ g, x.ownBlock = some g → v.ownBlock ≠ some g) → OwnO w' B x l := fun x l ho hne => ho.keep fun g hg => h2.block g (ho.block g hg).2 (fun e => hne g hg e.symm)
  have hget : ∀ (i : Nat) (x : Value) (l : List Int), (rs ++ rs2)[i]? = some (x, l) → (i < rs.length ∧ rs[i]? = some (x, l)) ∨ (rs.length ≤ i ∧ rs2[i - rs.length]? = some (x, l)) := fun i x l e => by
    rcases Nat.lt_or_ge i rs.length with hi | hi
    · rw [List.getElem?_append_left hi] at e
      exact .inl ⟨hi, e⟩
    · rw [List.getElem?_append_right hi] at e
      exact .inr ⟨hi, e⟩
  refine ⟨by rw [List.length_append, List.map_append]; exact h1, fun i x l e => ?_, fun i x l e g hg hv => ?_, fun i j x l x' l' e e' hij g hg => ?_⟩
  · rcases hget i x l e with ⟨-, e⟩ | ⟨-, e⟩
    · exact kx x l (h.own i x l e) (h.off i x l e)
    · exact kx x l (hown _ x l e) fun g hg => (hoff _ x l e g hg).1
  · have hlt : g < w.heap.size ∧ v.ownBlock ≠ some g := by
      rcases hget i x l e with ⟨-, e⟩ | ⟨-, e⟩
      · exact ⟨((h.own i x l e).block g hg).2, h.off i x l e g hg⟩
      · exact ⟨((hown _ x l e).block g hg).2, (hoff _ x l e g hg).1⟩
    rcases h4 with h4 | h4
    · exact hlt.2 (h4 ▸ hv)
    · rw [h4] at hv
      injection hv with hv
      omega
  · rcases hget i x l e with ⟨hi, e⟩ | ⟨hi, e⟩ <;> rcases hget j x' l' e' with ⟨hj, e'⟩ | ⟨hj, e'⟩
    · exact h.apart i j x l x' l' e e' hij g hg
    · exact fun hx => (hoff _ x' l' e' g hx).2 i x l e hg
    · exact (hoff _ x l e g hg).2 j x' l' e'
    · exact hap _ _ x l x' l' e e' (by omega) g hg
theorem apRO {ops : Array Oper} {rest : List Oper} {o : Oper} {a : Act} {Q : Exit → Act → World → Prop} (hgd : o.guard = none) (s x : Operand)
    (ho : o.op = .call { callee := .builtin .append, args := #[s, x], argTypes := #[30, 30] }) (B : Nat) (v : Value) (rs : List (Value × List Int)) (hs : a.eval s = v) (h : OwnRO w B v rs) (rs2 : List (Value × List Int)) (hown : ∀ (i : Nat) (x : Value) (l : List Int), rs2[i]? = some (x, l) → OwnO w B x l)
    (hoff : ∀ (i : Nat) (x : Value) (l : List Int), rs2[i]? = some (x, l) → ∀ g, x.ownBlock = some g → v.ownBlock ≠ some g ∧ ∀ (j : Nat) (y : Value) (m : List Int), rs[j]? = some (y, m) → y.ownBlock ≠ some g)
    (hap : ∀ (i j : Nat) (x : Value) (l : List Int) (x' : Value) (l' : List Int), rs2[i]? = some (x, l) → rs2[j]? = some (x', l') → i ≠ j → ∀ g, x.ownBlock = some g → x'.ownBlock ≠ some g)
    (b : Option Addr) (n c : Nat) (hx : a.eval x = .slice b n c) (hn : rs2.length = n) (h0 : b = none → n = 0 ∧ c = 0) (hcell : ∀ ad, b = some ad → ∀ (i : Nat) (x : Value) (l : List Int), rs2[i]? = some (x, l) → w.cell? (ad.add i) = some x) (hl : (rs.length + n) * 24 ≤ 140737488355328) (hB : B ≤ w.heap.size)
    (hk : ∀ v' w', Hid (OwnRO w' B v' (rs ++ rs2) ∧ w.grownBy w' v.ownBlock ∧ (v'.ownBlock = v.ownBlock ∨ v'.ownBlock = some w.heap.size)) → wpList Tryd.prog ops Q rest (a.put o.dst v') w') : wpList Tryd.prog ops Q (o :: rest) a w := by
  obtain ⟨v', w', hr, hall⟩ := run_apRO w o.type B v rs h rs2 hown hoff hap b n c hn h0 hcell hl hB
  exact wpList_ap hgd s x _ _ ho _ _ v' w' hs hx hr (hk v' w' (Lib.hid hall))
theorem OwnRO.inRR (h : OwnRO w B v rs) (hB : ∀ p ∈ rs, isB p.2) : ∃ a c, v = .slice a rs.length c ∧ InRR w a (rs.map (·.2)) := by
  obtain ⟨a, c, hv, -⟩ := h.form
  refine ⟨a, c, hv, fun i l e => ?_⟩
  rw [List.getElem?_map, Option.map_eq_some_iff] at e
  obtain ⟨⟨x, l'⟩, hp, e2⟩ := e
  dsimp only at e2
  subst e2
  obtain ⟨g, c', hv', hc⟩ := h.at_ hp
  obtain ⟨ax, cx, rfl, h1, h2, h3, h4⟩ := (h.own i x l' hp).shape
  rw [hv] at hv'
  injection hv' with e1 e2 e3
  exact ⟨g, 0, ax, cx, e1, by rw [Nat.zero_add]; exact hc, h1, h2, h3, h4, hB _ (List.mem_of_getElem? hp)⟩
theorem OwnRR.o (h : OwnRR w B v rs) : OwnRO w B v rs := ⟨h.row, fun i x l e => (h.own i x l e).o, h.off, h.apart⟩
end
/-- One row more, made since. -/
theorem ro_snoc {w w5 : World} {B : Nat} {v x : Value} {rs : List (Value × List Int)} {l : List Int} (h : OwnRO w B v rs) (hb : Below w.heap.size w w5) (hx : OwnO w5 w.heap.size x l) (hB : B ≤ w.heap.size) :
    OwnRO (w5.alloc (.cells #[x] 22)) B v rs ∧ (∀ (i : Nat) (y : Value) (m : List Int), [(x, l)][i]? = some (y, m) → OwnO (w5.alloc (.cells #[x] 22)) B y m) ∧
      (∀ (i : Nat) (y : Value) (m : List Int), [(x, l)][i]? = some (y, m) → ∀ g, y.ownBlock = some g → v.ownBlock ≠ some g ∧ ∀ (j : Nat) (z : Value) (k : List Int), rs[j]? = some (z, k) → z.ownBlock ≠ some g) ∧
      (∀ (i j : Nat) (y : Value) (m : List Int) (y' : Value) (m' : List Int), [(x, l)][i]? = some (y, m) → [(x, l)][j]? = some (y', m') → i ≠ j → ∀ g, y.ownBlock = some g → y'.ownBlock ≠ some g) ∧
      (∀ ad, some (⟨w5.heap.size, 0, none⟩ : Addr) = some ad → ∀ (i : Nat) (y : Value) (m : List Int), [(x, l)][i]? = some (y, m) → (w5.alloc (.cells #[x] 22)).cell? (ad.add i) = some y) := by
  have one : ∀ (i : Nat) (y : Value) (m : List Int), [(x, l)][i]? = some (y, m) → i = 0 ∧ y = x ∧ m = l := fun i y m e => by
    cases i with
    | zero =>
      simp at e
      exact ⟨rfl, e.1.symm, e.2.symm⟩
    | succ i => simp at e
  have hb6 := below_then hb (below1 w5 (.cells #[x] 22))
  refine ⟨h.then_ hb6, fun i y m e => ?_, fun i y m e g hg => ?_, fun i j y m y' m' e e' hij => ?_, fun ad had i y m e => ?_⟩
  · obtain ⟨rfl, rfl, rfl⟩ := one i y m e
    exact (hx.base hB).then_ (below1 w5 _)
  · obtain ⟨rfl, rfl, rfl⟩ := one i y m e
    have h1 := (hx.block g hg).1
    refine ⟨fun hv => ?_, fun j z k ej hz => ?_⟩
    · have := (h.block g hv).2
      omega
    · have := ((h.own j z k ej).block g hz).2
      omega
  · obtain ⟨rfl, -, -⟩ := one i y m e
    obtain ⟨rfl, -, -⟩ := one j y' m' e'
    exact absurd rfl hij
  · obtain ⟨rfl, rfl, rfl⟩ := one i y m e
    injection had with had
    subst had
    exact row_cells (heap_alloc_new w5 (.cells #[y] 22)) 0
/-- What the program's Scan tells. -/
def ScP (l : List Int) (e : Int) (w : World) (en : Ending) (w' : World) : Prop := ∃ v rs, en = .returned (.tuple #[v, .int .i64 ((scanN (streamN e (l.length / 512) l) e).2 : Int)]) ∧ rs.map Prod.snd = (scanN (streamN e (l.length / 512) l) e).1 ∧ OwnRO w' w.heap.size v rs ∧ Below w.heap.size w w'
end Go.Proofs.YtophhnolnlbecaaDoor
namespace Go.Proofs.YtophhnolnlbecaaDoor
open Go.RowKit
set_option maxRecDepth 100000

/-- The program's calls on bytes answer so, in every world that has grown out of W. -/
structure P15F (W : World) : Prop where
  frame : ∀ (e num : Int) (a : Option Addr) (n c : Nat) (l : List Int) (w : World), Below W.heap.size W w → okInt e → okInt num → InB w a l → isB l → l.length = n → n ≤ c → c ≤ maxLen → n ≤ 140737488351232 → (a = none → c = 0 ∧ l = []) →
    Calls Tryd.prog 11 #[.int .i64 e, .int .i64 num, .slice a n c] w (FrTo e num l w)
  scan : ∀ (e : Int) (a : Option Addr) (n c : Nat) (l : List Int) (w : World), Below W.heap.size W w → okInt e → InB w a l → isB l → l.length = n → n ≤ c → c ≤ maxLen → n ≤ 140737488351232 → (a = none → c = 0 ∧ l = []) →
    Calls Tryd.prog 15 #[.slice a n c, .int .i64 e] w (ScP l e w)
def exJR : List Int := [7, 8]
def exJF : List Int := jFrame 1 0 exJR
theorem exJR_b : isB exJR := isB_of (by decide)
theorem exJF_len : exJF.length = 22 := by unfold exJF; rw [jFrame_len]; rfl
theorem exJF_b : isB exJF := jFrame_byte exJR_b
theorem exJF_at : exJF[0]? = some 2 ∧ exJF[4]? = some 1 ∧ exJF[20]? = some 7 := by
  unfold exJF jFrame jHead
  generalize moreP 0 _ = s
  exact ⟨rfl, rfl, rfl⟩
theorem exJF_fr : frE 1 0 exJR.length = 0 ∧ frL 1 0 exJR = exJF := by
  have h : frE 1 0 exJR.length = 0 := by decide
  exact ⟨h, by unfold frL; rw [if_pos h]; rfl⟩
theorem exJN_fr : frE 0 0 ([] : List Int).length = 1 := by decide
theorem exJS : strmK 1 [exJR] 1 = exJF := by
  unfold strmK strmK
  simp [begins]
  rfl
/-- A sector with that frame. -/
def exJB : List Int := leB 8 1 ++ (exJF ++ zB 482)
theorem exJB_is : exJB = secL 1 (strmK 1 [exJR] 1) 0 := by
  unfold exJB secL
  rw [exJS, exJF_len, Nat.mul_zero, List.drop_zero, List.take_of_length_le (by rw [exJF_len]; omega)]
  rfl
theorem exJB_len : exJB.length = 512 := by rw [exJB_is]; exact secL_len _ _ _
theorem exJB_b : isB exJB := (leB_byte _ _).append2 (exJF_b.append2 (isB_of (by decide)))
theorem exJB_scan : scanN (streamN 1 (exJB.length / 512) exJB) 1 = ([exJR], 22) := by
  have he : jOk 1 := by decide
  have hlen : (strmK 1 [exJR] 1).length = 22 := by rw [exJS, exJF_len]
  obtain ⟨m, h1, h2, -, h4⟩ := area_scan (X := fun _ => exJB) (e := 1) (rs := [exJR]) (n := 1) (lo := 1) (fun _ => exJB_len) he (by decide) (fun r hr => by rw [List.mem_singleton.1 hr]; decide) (Nat.le_refl _) (by rw [hlen]; decide) (fun q hq => .inr ⟨1, Nat.le_refl _, Nat.le_refl _, by rw [hlen]; omega, by rw [show q = 0 by omega]; exact exJB_is⟩)
  have hm : m = 1 := by simp at h2; omega
  subst hm
  rw [exJB_len]
  have e1 : catF (fun _ => exJB) 0 1 = exJB := by unfold catF catF; exact List.append_nil _
  rw [e1] at h4
  rw [h4, hlen]
  rfl
theorem exJB_other : scanN (streamN 2 (exJB.length / 512) exJB) 2 = ([], 0) := by
  have h1 : streamN 2 (exJB.length / 512) exJB = [] := by
    rw [exJB_len]
    have hs : ¬ stampIs exJB 2 := by rw [exJB_is]; exact other_stamp (by decide) (by decide) _ _
    show streamN 2 1 exJB = []
    rw [streamN, if_neg (by rw [exJB_len]; omega), if_neg (show ¬ (readE exJB 0 8 = 0 ∧ readP exJB 0 8 = 2) from hs)]
  rw [h1]
  decide
theorem exJB_made : spl ((zB 512).set 0 1) 8 exJF = exJB := by
  have e : (zB 512).set 0 1 = leB 8 1 ++ (zB 22 ++ zB 482) := by decide
  rw [e, spl_mid (by rw [zB_len, exJF_len]) (by rw [leB_len])]
  rfl
theorem one_row {rs : List (Value × List Int)} {r : List Int} (h : rs.map Prod.snd = [r]) : ∃ x, rs = [(x, r)] := by
  cases rs with
  | nil => simp at h
  | cons p t =>
    obtain ⟨x, l⟩ := p
    simp at h
    obtain ⟨rfl, rfl⟩ := h
    exact ⟨x, rfl⟩
theorem FullAt.put {w : World} {g j : Nat} {L : List Int} (h : FullAt w g L) (x : Int) : FullAt (w.setCell ⟨g, j, none⟩ (.int .u8 x)) g (L.set j x) := by
  unfold FullAt at *
  have h2 := set_heap (i := j) h (.int .u8 x)
  have e : (btV L).toArray.setIfInBounds j (.int .u8 x) = (btV (L.set j x)).toArray := by simp [btV, List.map_set]
  rw [e] at h2
  exact h2
set_option maxHeartbeats 8000000 in
theorem awake15_any {W : World} (P : P15F W) (w : World) (hw : Below W.heap.size W w) : Calls Tryd.prog 9 #[] w fun e w' => e = .returned (.bool true) ∧ Below w.heap.size w w' := by
  have HP := Lib.hid P
  have HW := Lib.hid hw
  clear P hw
  go_enter Tryd.func9, Tryd.ntmps9
  go_wp2_with fail
  have hb1 := below1 w (.cells #[.int .u8 7, .int .u8 8] 5)
  have W1 := Lib.hid (HW.out.trans (hb1.mono HW.out.size))
  have hi1 : InB (w.alloc (.cells #[.int .u8 7, .int .u8 8] 5)) (some ⟨w.heap.size, 0, none⟩) exJR := by
    have h := (OwnB.lit w exJR (by decide)).inB
    simpa [btV, exJR] using h
  refine (HP.out.frame 1 0 (some ⟨w.heap.size, 0, none⟩) 2 2 exJR _ W1.out (by unfold okInt; omega) (by unfold okInt; omega) hi1 exJR_b rfl (Nat.le_refl _) (by decide) (by omega) (fun e => by cases e)).mono ?_
  rintro e w2 ⟨v2, rfl, o2, b2⟩
  rw [exJF_fr.1]
  rw [exJF_fr.2] at o2
  obtain ⟨g, c, rfl, hc⟩ := o2.form (by rw [exJF_len]; omega)
  have hcm : c ≤ maxLen := by obtain ⟨a2, c2, e2, -, -, -, h2⟩ := o2.shape; injection e2 with _ _ e3; subst e3; exact h2
  have B2 := Lib.hid (below_then hb1 b2)
  have W2 := Lib.hid (HW.out.trans (B2.out.mono HW.out.size))
  have O2 := Lib.hid o2
  have k0 := (o2.at_ exJF_at.1).1
  have k4 := (o2.at_ exJF_at.2.1).1
  have k20 := (o2.at_ exJF_at.2.2).1
  rw [exJF_len] at hc ⊢
  have hmk : ∀ w : World, (Instr.makeSlice 22 (.int .i64 512) (.int .i64 512)).run Tryd.prog w = .ok (.slice (some ⟨w.heap.size, 0, none⟩) 512 512) (w.alloc (.cells (zeroV 512).toArray 5)) := fun w => by have := make_zero 512 (by omega) w; simpa using this
  have F3 : Hid (FullAt (w2.alloc (.cells (zeroV 512).toArray 5)) w2.heap.size (zB 512)) := Lib.hid (by unfold FullAt; rw [show zB 512 = List.replicate 512 0 from rfl, ← zeroV_bt]; exact heap_alloc_new w2 _)
  obtain ⟨z0, z1⟩ := F3.out.at_ (j := 0) (x := 0) rfl
  have F4 : Hid (FullAt (w2.alloc (.cells ((zeroV 512).set 0 (.int .u8 1)).toArray 5)) w2.heap.size ((zB 512).set 0 1)) := Lib.hid (by
    unfold FullAt
    have e : (zeroV 512).set 0 (.int .u8 1) = btV ((zB 512).set 0 1) := by rw [zeroV_bt]; simp [btV, zB, List.map_set]
    rw [e]
    exact heap_alloc_new w2 _)
  have B4 := Lib.hid (below1 w2 (.cells ((zeroV 512).set 0 (.int .u8 1)).toArray 5))
  have HI4 : Hid (InB (w2.alloc (.cells ((zeroV 512).set 0 (.int .u8 1)).toArray 5)) (some ⟨g, 0, none⟩) exJF) := Lib.hid (O2.out.then_ B4.out).inB
  have hz8 : 8 + 22 ≤ ((zB 512).set 0 1).length := by rw [List.length_set, zB_len]; omega
  clear b2 o2 hb1 hi1
  go_wp2_with (show wpList _ _ _ (⟨some 46, _, _, _, _, _⟩ :: _) _ _; refine cpF (o := ⟨some 46, _, _, _, _, _⟩) rfl (.tmp 44) (.tmp 45) rfl w2.heap.size 8 504 504 _ F4.out rfl (some ⟨g, 0, none⟩) 22 c exJF rfl exJF_len (by omega) HI4.out hz8 w2.heap.size w2 B4.out (Nat.le_refl _) ?_; intro w5 f5 b5; have F5 := Lib.hid (exJB_made ▸ f5.out); have B5 := Lib.hid b5; clear b5 f5)
  have B5' := Lib.hid (below_then B2.out B5.out)
  have W5 := Lib.hid (HW.out.trans (B5'.out.mono HW.out.size))
  refine (HP.out.scan 1 (some ⟨w2.heap.size, 0, none⟩) 512 512 exJB w5 W5.out (by unfold okInt; omega) F5.out.inB exJB_b exJB_len (Nat.le_refl _) (by decide) (by omega) (fun e => by cases e)).mono ?_
  rintro e w6 ⟨v6, rs6, rfl, h6, o6, b6⟩
  rw [exJB_scan] at h6 ⊢
  obtain ⟨x6, hx6⟩ := one_row h6
  subst hx6
  obtain ⟨g6, c6, rfl, hc6⟩ := o6.at_ (i := 0) rfl
  obtain ⟨a6, d6, rfl, i6, n6, -, -⟩ := (o6.own 0 x6 exJR rfl).shape
  have B6 := Lib.hid (below_then B5'.out b6)
  have W6 := Lib.hid (HW.out.trans (B6.out.mono HW.out.size))
  have F6 := Lib.hid (F5.out.then_ b6)
  have H6 := Lib.hid (And.intro hc6 (And.intro i6 n6))
  clear b6 o6 h6 hc6 i6 n6
  go_wp2_with fail
  refine (HP.out.scan 2 (some ⟨w2.heap.size, 0, none⟩) 512 512 exJB w6 W6.out (by unfold okInt; omega) F6.out.inB exJB_b exJB_len (Nat.le_refl _) (by decide) (by omega) (fun e => by cases e)).mono ?_
  rintro e w7 ⟨v7, rs7, rfl, h7, o7, b7⟩
  rw [exJB_other] at h7 ⊢
  have hr7 : rs7 = [] := by simpa using h7
  subst hr7
  obtain ⟨a7, c7, rfl, -, -, -⟩ := o7.form
  have B7 := Lib.hid (below_then B6.out b7)
  have W7 := Lib.hid (HW.out.trans (B7.out.mono HW.out.size))
  have H7 := Lib.hid b7
  clear b7 o7 h7
  go_wp2_with fail
  refine (HP.out.frame 0 0 none 0 0 [] w7 W7.out (by unfold okInt; omega) (by unfold okInt; omega) (InB.nil _ _) isB.nil rfl (Nat.le_refl _) (by decide) (by omega) (fun _ => ⟨rfl, rfl⟩)).mono ?_
  rintro e w8 ⟨v8, rfl, o8, b8⟩
  rw [exJN_fr]
  have hb68 := below_then H7.out b8
  have k6 : w8.cell? ⟨g6, 0, none⟩ = some (.slice a6 exJR.length d6) := (hb68.cell (p := ⟨g6, 0, none⟩) (cell_lt H6.out.1)).trans H6.out.1
  have s6 := run_str w8 a6 exJR.length d6 exJR rfl (H6.out.2.1.then_ hb68) (fun h => (H6.out.2.2 h).2)
  have q6 : ((strOfNums exJR).toList == [7, 8]) = true := by decide +kernel
  have B8 := Lib.hid (below_then B7.out b8)
  clear b8 o8 hb68
  generalize strOfNums exJR = S6 at *
  go_wp2_with fail
  go_ret
  exact ⟨rfl, B8.out⟩
end Go.Proofs.YtophhnolnlbecaaDoor
