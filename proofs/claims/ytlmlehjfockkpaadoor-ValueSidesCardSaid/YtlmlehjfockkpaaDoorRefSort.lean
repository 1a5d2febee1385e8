/- The contract of the document's own Sort: no statement is proved here. -/
import Derived.Test.YtlmlehjfockkpaaDoorInsert
import Derived.Deep.Cut
namespace Go.Proofs.YtlmlehjfockkpaaDoor
open Go.RowKit
set_option maxRecDepth 100000

/-- After i rounds. -/
structure InsRel (l : List T) (w wr : World) (i : Nat) (a : Option Addr) (c : Nat) (us : List T) : Prop where
  len : us.length = i
  ord : Ord cmpV (us.map T.val)
  cls : ∀ v, class_ cmpV v (us.map T.val) = class_ cmpV v ((l.map T.val).take i)
  own : OwnL wr w.heap.size a c us
  below : Below w.heap.size w wr
theorem ins_step {l : List T} {w wr w3 : World} {i k g cap : Nat} {a : Option Addr} {c : Nat} {us : List T} {x y : T} (R : InsRel l w wr i a c us) (hx : l[i]? = some x) (hv : y.val = x.val) (h1 : k = 0 ∨ ∃ z, us[k - 1]? = some z ∧ cmpV z.val y.val ≤ 0) (h2 : ∀ z ∈ us.drop k, 0 < cmpV z.val y.val)
    (ho : OwnL w3 w.heap.size (some ⟨g, 0, none⟩) cap (us.take k ++ y :: us.drop k)) (hb : Below w.heap.size w w3) : InsRel l w w3 (i + 1) (some ⟨g, 0, none⟩) cap (us.take k ++ y :: us.drop k) := by
  have hm : (us.take k ++ y :: us.drop k).map T.val = (us.map T.val).take k ++ y.val :: (us.map T.val).drop k := by simp
  have hd : ∀ z ∈ (us.map T.val).drop k, 0 < cmpV z y.val := fun z hz => by
    rw [← List.map_drop] at hz
    obtain ⟨t, ht, rfl⟩ := List.mem_map.1 hz
    exact h2 t ht
  have ht : ∀ z ∈ (us.map T.val).take k, cmpV z y.val ≤ 0 := fun z hz => by
    rcases h1 with h1 | ⟨t, ht, hc⟩
    · subst h1; simp at hz
    · have hord := R.ord
      obtain ⟨j, hj⟩ := List.getElem?_of_mem hz
      rw [List.getElem?_take] at hj
      split at hj
      · rename_i hjk
        have hlast : (us.map T.val)[k - 1]? = some t.val := by rw [List.getElem?_map, ht]; rfl
        by_cases he : j = k - 1
        · subst he
          rw [hlast] at hj
          cases hj
          exact hc
        · obtain ⟨p1, rfl⟩ := List.getElem?_eq_some_iff.1 hj
          obtain ⟨p2, e2⟩ := List.getElem?_eq_some_iff.1 hlast
          have h3 := List.pairwise_iff_getElem.1 hord j (k - 1) p1 p2 (by omega)
          rw [e2] at h3
          exact pre_cmpV.trans _ _ _ h3 hc
      · cases hj
  have hap : (us.map T.val).take k ++ (us.map T.val).drop k = us.map T.val := List.take_append_drop ..
  refine ⟨by have := R.len; have hk := congrArg List.length hap; simp at hk ⊢; omega, ?_, fun v => ?_, ho, hb⟩
  · rw [hm]
    exact insert_ord pre_cmpV (by rw [hap]; exact R.ord) ht hd
  · rw [hm, insert_class pre_cmpV hd, hap, class_append, R.cls, List.take_add_one, List.getElem?_map, hx, class_append]
    simp [hv]
theorem ins_done {l : List T} {w wr : World} {a : Option Addr} {c : Nat} {us : List T} (R : InsRel l w wr l.length a c us) : us.map T.val = sortG cmpV (l.map T.val) := by
  refine ord_unique pre_cmpV _ _ R.ord (sortG_ord pre_cmpV _ _ (Nat.le_refl _)) (fun v => ?_)
  rw [R.cls, sortG_class pre_cmpV v _ _ (Nat.le_refl _), List.take_of_length_le (by simp)]
theorem ownL_row {w : World} {B n : Nat} {a : Option Addr} {c : Nat} {us : List T} (h : OwnL w B a c us) (hn : us.length = n) : w.ownsRow B 25 5 (.slice a n c) n (us.flatMap T.cells) := by
  have := h.owns.head
  rw [hn] at this
  exact this
theorem ownL_in {w : World} {B : Nat} {a : Option Addr} {c : Nat} {us : List T} (h : OwnL w B a c us) : InL w a us := own_inL h.owns.head (fun x hx => owns_in x (fun r hr => h.owns r (List.mem_cons_of_mem _ (List.mem_flatMap.2 ⟨x, hx, hr⟩))))

set_option maxHeartbeats 4000000 in
theorem refSort_any (la : Option Addr) (ca : Nat) (l : List T) (w : World) (hl : InL w la l) (hb : l.length * 80 ≤ 140737488351232) (hok : ∀ x ∈ l, x.ok) :
    Calls Tryd.prog 33 #[.slice la l.length ca] w (SortTo l w) := by
  obtain ⟨i0, hi0, hz0, hz1, hz2⟩ := info_parts info_value
  have I0 := Lib.hid (And.intro hi0 (And.intro hz0 (And.intro hz1 hz2)))
  have HL := Lib.hid hl
  have HK := Lib.hid hok
  clear hi0 hz0 hz1 hz2 hl hok
  go_enter Tryd.func33, Tryd.ntmps33
  go_wp2_with fail
  go_loopw [3, 4, 5, 6] (fun s3 s4 _ _ wr => ∃ (i : Nat) (a : Option Addr) (c : Nat) (us : List T), i ≤ l.length ∧ s3 = .slice a i c ∧ s4 = .int .i64 i ∧ InsRel l w wr i a c us) (fun _ s4 _ _ _ => l.length - (intOf s4).toNat)
  case atStart => exact ⟨0, none, 0, [], by omega, rfl, rfl, rfl, List.Pairwise.nil, fun v => by simp, ⟨by simp, by simp [okLen], by simp, by simp, by intro r hr; simp at hr; subst hr; exact World.ownsRow_nil _ _ _ _, by simp [blocksOf, Value.ownBlock]⟩, Below.refl _ _⟩
  case round =>
    obtain ⟨i, a, c, us, hi, rfl, rfl, R⟩ := hrel
    have HR := Lib.hid R
    have hbel := R.below
    clear R
    by_cases h1 : i < l.length
    · obtain ⟨b, o, k1, n1, s1, la1, lc1, l1, da1, dc1, d1, rfl, hx, hix, x0, x1, x2, x3, x4⟩ := (HL.out.then_ hbel).five h1
      have H := Lib.hid (refClone_any _ (HK.out _ (List.mem_of_getElem? hx)))
      have HX := Lib.hid hx
      clear hx
      go_upto_region 6 with (go_at_call 62; refine (H.out _ hix).mono ?_; rintro e w1 ⟨⟨k', n', s', la', lc', l', da', dc', d'⟩, rfl, hv', ho', hb1⟩; dsimp only [T.arg, T.cells]; have HO := Lib.hid ho'; have HV := Lib.hid hv'; have HB1 := Lib.hid hb1; clear hv' ho' hb1)
      have bx := Lib.hid (heap_alloc_new w1 (.cells #[.int .i64 k', .int .i64 n', .string s', .slice la' l'.length lc', .slice da' d'.length dc'] 25))
      have HW := Lib.hid (below_then HB1.out (below1 w1 (.cells #[.int .i64 k', .int .i64 n', .string s', .slice la' l'.length lc', .slice da' d'.length dc'] 25)))
      have HOY := Lib.hid (HO.out.keep (Only.of_below (S := []) (below1 w1 (.cells #[.int .i64 k', .int .i64 n', .string s', .slice la' l'.length lc', .slice da' d'.length dc'] 25))) (by simp) (Nat.le_refl _))
      have hzo : wr.heap.size ≤ w1.heap.size := HB1.out.size
      have hz1 : w1.heap.size + 1 ≤ (w1.alloc (.cells #[.int .i64 k', .int .i64 n', .string s', .slice la' l'.length lc', .slice da' d'.length dc'] 25)).heap.size := by simp
      clear x0 x1 x2 x3 x4 hix
      generalize (w1.alloc (.cells #[.int .i64 k', .int .i64 n', .string s', .slice la' l'.length lc', .slice da' d'.length dc'] 25)) = w2 at bx HW hz1 HOY ⊢
      go_wp2_with fail
      obtain ⟨wo, rfl⟩ : ∃ wo : World, wo = wr := ⟨_, rfl⟩
      go_loopw [6] (fun s6 wr => ∃ (k : Nat), k ≤ i ∧ s6 = .int .i64 k ∧ Below w2.heap.size w2 wr ∧ ∀ z ∈ us.drop k, 0 < cmpV z.val (T.mk k' n' s' la' lc' l' da' dc' d').val) (fun s6 _ => (intOf s6).toNat)
      case atStart => exact ⟨i, by omega, rfl, Below.refl _ _, by have := HR.out.len; rw [List.drop_eq_nil_of_le (by omega)]; simp⟩
      case round =>
        obtain ⟨k, hk, rfl, hb2, hgt⟩ := hrel
        have HB2 := Lib.hid hb2
        have HGT := Lib.hid hgt
        have fx : ∀ o, wr.cell? ⟨w1.heap.size, o, none⟩ = (#[.int .i64 k', .int .i64 n', .string s', .slice la' l'.length lc', .slice da' d'.length dc'] : Array Value)[o]? := row_cells (row_then bx.out hb2)
        clear hb2 hgt
        by_cases hk0 : k = 0
        · have HK0 := Lib.hid hk0
          have hkf : decide ((0 : Int) < (k : Int)) = false := by simp; omega
          have hkg : decide (0 < k) = false := by simp; omega
          clear hk0
          go_wp2_with fail
          go_quiet (fail)
          go_upto_region 9 with (fail)
          have HK1 := Lib.hid (show k = 0 ∨ ∃ z, us[k - 1]? = some z ∧ cmpV z.val (T.mk k' n' s' la' lc' l' da' dc' d').val ≤ 0 from .inl HK0.out)
          -- the tail, with k = 0
          have HX2 := Lib.hid (below_drewN HB2.out nq)
          have hzx : w1.heap.size + 1 ≤ wr.heap.size := by have := HB2.out.size; omega
          have HROW := Lib.hid (row_keep (row_keep (ownL_row HR.out.own HR.out.len) HW.out) HX2.out)
          have fy : ∀ o, (wr.drewN nq).cell? ⟨w1.heap.size, o, none⟩ = (#[.int .i64 k', .int .i64 n', .string s', .slice la' l'.length lc', .slice da' d'.length dc'] : Array Value)[o]? := row_cells (row_then bx.out HX2.out)
          have hle : (i + 1) * 80 ≤ 140737488351232 := by omega
          have hzw : w.heap.size ≤ wo.heap.size := HR.out.below.size
          go_wp2_with (at_builtin; go_loud (refine wpList_append_lies _ rfl (.tmp 34) (.tmp 36) 22 rfl w.heap.size 25 i0 _ 5 80 Tryd.underlying22 I0.out.1 I0.out.2.1 I0.out.2.2.1 I0.out.2.2.2 rfl (by decide) (.slice a i c) i _ rfl (HROW.out.alloc _) _ 1 1 [.int .i64 k', .int .i64 n', .string s', .slice la' l'.length lc', .slice da' d'.length dc'] rfl rfl (news_at _ _ _ _ (by simp)) (by simp [Value.oneCell']) (by decide) (by unfold maxLen; omega) (by omega) (by simp; omega) _ rfl ?_; intro g cap w4 hown4 hgrow4 hg4 hlt4; have HO4 := Lib.hid hown4; have HG4 := Lib.hid hgrow4; have HD4 := Lib.hid hg4; clear hown4 hgrow4 hg4))
          have hc1 : i + 1 ≤ cap := by
            obtain ⟨_, h2⟩ := HO4.out
            rcases h2 with ⟨hv, _⟩ | ⟨g', cap', cur, hv, hb, hg, hkc, _⟩
            · cases hv
            · injection hv with _ _ e3; omega
          have hc2 := cap_of HO4.out
          have W1 := IntWalk.i64_in (((k : Nat) : Int) + 1) (by omega)
          have W3 : (0 : Int) ≤ ((k : Nat) : Int) + 1 := by omega
          have W4 : ((k : Nat) : Int) + 1 ≤ (i : Int) + 1 := by omega
          have W5 : (((k : Nat) : Int) + 1).toNat = k + 1 := by omega
          have W6 : ((k : Nat) : Int) ≤ (i : Int) + 1 := by omega
          have W7 : ¬ cap = k := by omega
          by_cases hck : cap = k + 1
          · have HOFF := Lib.hid (show (0 : Nat) = (k + 1) * 5 ∨ k = i from .inr (by omega))
            go_region_law (refine step_copy5 rfl (.tmp 41) (.tmp 44) rfl g (0) (i - (k)) (0) (by simp [Act.eval, Act.put]; try omega) ⟨g, (k) * 5, none⟩ (i + 1 - (k)) (1) (by simp [Act.eval, Act.put]; try omega) ((us.drop (k)).flatMap T.cells) (ins_len hk HR.out.len) (insert_src (y := .mk k' n' s' la' lc' l' da' dc' d') hk HR.out.len HO4.out.drew) (fun j hj => (ins_room hk HR.out.len HO4.out.drew hc1 HOFF.out j hj).1) (fun j hj => (ins_room hk HR.out.len HO4.out.drew hc1 HOFF.out j hj).2) (cells_one _) ?_)
            all_goals
              have HP := ins_off (w := w4.drew) (g := g) HR.out.len HOFF.out
              have HI := own_insert (y := .mk k' n' s' la' lc' l' da' dc' d') hk HR.out.len HO4.out.drew
              have HSH := own_shift (k := k) hk HR.out.len HO4.out.drew
              have HON := only_drew_put (w := w4) (g := g) (o := 0) (vs := (us.drop (k)).flatMap T.cells)
              rw [← HP] at HI HSH
              generalize putCells w4.drew g (0) ((us.drop (k)).flatMap T.cells) = w5 at HI HSH HON ⊢
              obtain ⟨ys, hys⟩ := HSH
              have hgb := hys.lt g rfl
              have hno : ∀ z, (Value.slice a i c).ownBlock = some z → w.heap.size ≤ z ∧ z < wo.heap.size := (ownL_row HR.out.own HR.out.len).lt
              have hog : Only ((Value.slice a i c).ownBlock.toList) (wr.drewN nq) w4 := (Only.of_below (below1 _ _)).trans (Only.of_grow HG4.out)
              have bx4 := keep_row hog (row_then bx.out HX2.out) (fun hc => by have := hno _ (by simpa using hc); omega)
              have hgne : ¬ g = w1.heap.size := by
                rcases HD4.out with h | h
                · have := hno g h; omega
                · have h9 : g = wr.heap.size + 1 := by rw [h]; simp
                  omega
              have hgnf : ¬ w1.heap.size = g := fun e => hgne e.symm
              have fy5 : ∀ o, w5.cell? ⟨w1.heap.size, o, none⟩ = (#[.int .i64 k', .int .i64 n', .string s', .slice la' l'.length lc', .slice da' d'.length dc'] : Array Value)[o]? := row_cells (keep_row HON bx4 (by simp; omega))
              obtain ⟨⟨v0, c0⟩, f0⟩ := own_room hys (j := (k) * 5) (by omega)
              obtain ⟨⟨v1, c1⟩, f1⟩ := own_room hys (j := (k) * 5 + 1) (by omega)
              obtain ⟨⟨v2, c2⟩, f2⟩ := own_room hys (j := (k) * 5 + 2) (by omega)
              obtain ⟨⟨v3, c3⟩, f3⟩ := own_room hys (j := (k) * 5 + 3) (by omega)
              obtain ⟨⟨v4, c4⟩, f4⟩ := own_room hys (j := (k) * 5 + 4) (by omega)
              have HB9 : Below w.heap.size w (putCells w5 g ((k) * 5) [.int .i64 k', .int .i64 n', .string s', .slice la' l'.length lc', .slice da' d'.length dc']) := by
                refine ((((Only.of_below (S := []) (below_then HR.out.below (below_then HW.out HX2.out))).then_ hog (fun z hz => .inr (by have := hno z (by simpa using hz); omega))).then_ HON (by simp; omega)).then_ (put_only [.int .i64 k', .int .i64 n', .string s', .slice la' l'.length lc', .slice da' d'.length dc'] g ((k) * 5) w5) (by simp; omega)).below
              have HOI := ownL_insert (n := i) (k := k) HR.out.own HR.out.below.size (HOY.out.keep (Only.of_below (S := []) (below_then HX2.out (below1 (wr.drewN nq) (.cells #[.int .i64 k', .int .i64 n', .string s', .slice la' l'.length lc', .slice da' d'.length dc'] 25)))) (by simp) (Nat.le_refl _)) (below_then HW.out (below_then HX2.out (below1 (wr.drewN nq) (.cells #[.int .i64 k', .int .i64 n', .string s', .slice la' l'.length lc', .slice da' d'.length dc'] 25)))) HR.out.len (by unfold okLen; omega) HO4.out HG4.out HD4.out (HON.trans (put_only [.int .i64 k', .int .i64 n', .string s', .slice la' l'.length lc', .slice da' d'.length dc'] g ((k) * 5) w5)) HI
              have HS := Lib.hid (ins_step HR.out HX.out HV.out HK1.out HGT.out HOI HB9)
              rw [put5] at HS
              rw [hck] at HS
              clear HI HON HP hog bx4 HB9 HOI hys hgb hno
              go_wp2_with fail
              go_roundw
              case rel => exact ⟨i + 1, some ⟨g, 0, none⟩, _, us.take (k) ++ (.mk k' n' s' la' lc' l' da' dc' d') :: us.drop (k), by omega, rfl, by go_num, HS.out⟩
              case measure => simp [intOf]; omega
          · have HOFF := Lib.hid (show (k + 1) * 5 = (k + 1) * 5 ∨ k = i from .inl rfl)
            go_region_law (refine step_copy5 rfl (.tmp 41) (.tmp 44) rfl g ((k + 1) * 5) (i - (k)) (cap - (k + 1)) (by simp [Act.eval, Act.put]; try omega) ⟨g, (k) * 5, none⟩ (i + 1 - (k)) (cap - (k)) (by simp [Act.eval, Act.put]; try omega) ((us.drop (k)).flatMap T.cells) (ins_len hk HR.out.len) (insert_src (y := .mk k' n' s' la' lc' l' da' dc' d') hk HR.out.len HO4.out.drew) (fun j hj => (ins_room hk HR.out.len HO4.out.drew hc1 HOFF.out j hj).1) (fun j hj => (ins_room hk HR.out.len HO4.out.drew hc1 HOFF.out j hj).2) (cells_one _) ?_)
            all_goals
              have HP := ins_off (w := w4.drew) (g := g) HR.out.len HOFF.out
              have HI := own_insert (y := .mk k' n' s' la' lc' l' da' dc' d') hk HR.out.len HO4.out.drew
              have HSH := own_shift (k := k) hk HR.out.len HO4.out.drew
              have HON := only_drew_put (w := w4) (g := g) (o := (k + 1) * 5) (vs := (us.drop (k)).flatMap T.cells)
              rw [← HP] at HI HSH
              generalize putCells w4.drew g ((k + 1) * 5) ((us.drop (k)).flatMap T.cells) = w5 at HI HSH HON ⊢
              obtain ⟨ys, hys⟩ := HSH
              have hgb := hys.lt g rfl
              have hno : ∀ z, (Value.slice a i c).ownBlock = some z → w.heap.size ≤ z ∧ z < wo.heap.size := (ownL_row HR.out.own HR.out.len).lt
              have hog : Only ((Value.slice a i c).ownBlock.toList) (wr.drewN nq) w4 := (Only.of_below (below1 _ _)).trans (Only.of_grow HG4.out)
              have bx4 := keep_row hog (row_then bx.out HX2.out) (fun hc => by have := hno _ (by simpa using hc); omega)
              have hgne : ¬ g = w1.heap.size := by
                rcases HD4.out with h | h
                · have := hno g h; omega
                · have h9 : g = wr.heap.size + 1 := by rw [h]; simp
                  omega
              have hgnf : ¬ w1.heap.size = g := fun e => hgne e.symm
              have fy5 : ∀ o, w5.cell? ⟨w1.heap.size, o, none⟩ = (#[.int .i64 k', .int .i64 n', .string s', .slice la' l'.length lc', .slice da' d'.length dc'] : Array Value)[o]? := row_cells (keep_row HON bx4 (by simp; omega))
              obtain ⟨⟨v0, c0⟩, f0⟩ := own_room hys (j := (k) * 5) (by omega)
              obtain ⟨⟨v1, c1⟩, f1⟩ := own_room hys (j := (k) * 5 + 1) (by omega)
              obtain ⟨⟨v2, c2⟩, f2⟩ := own_room hys (j := (k) * 5 + 2) (by omega)
              obtain ⟨⟨v3, c3⟩, f3⟩ := own_room hys (j := (k) * 5 + 3) (by omega)
              obtain ⟨⟨v4, c4⟩, f4⟩ := own_room hys (j := (k) * 5 + 4) (by omega)
              have HB9 : Below w.heap.size w (putCells w5 g ((k) * 5) [.int .i64 k', .int .i64 n', .string s', .slice la' l'.length lc', .slice da' d'.length dc']) := by
                refine ((((Only.of_below (S := []) (below_then HR.out.below (below_then HW.out HX2.out))).then_ hog (fun z hz => .inr (by have := hno z (by simpa using hz); omega))).then_ HON (by simp; omega)).then_ (put_only [.int .i64 k', .int .i64 n', .string s', .slice la' l'.length lc', .slice da' d'.length dc'] g ((k) * 5) w5) (by simp; omega)).below
              have HOI := ownL_insert (n := i) (k := k) HR.out.own HR.out.below.size (HOY.out.keep (Only.of_below (S := []) (below_then HX2.out (below1 (wr.drewN nq) (.cells #[.int .i64 k', .int .i64 n', .string s', .slice la' l'.length lc', .slice da' d'.length dc'] 25)))) (by simp) (Nat.le_refl _)) (below_then HW.out (below_then HX2.out (below1 (wr.drewN nq) (.cells #[.int .i64 k', .int .i64 n', .string s', .slice la' l'.length lc', .slice da' d'.length dc'] 25)))) HR.out.len (by unfold okLen; omega) HO4.out HG4.out HD4.out (HON.trans (put_only [.int .i64 k', .int .i64 n', .string s', .slice la' l'.length lc', .slice da' d'.length dc'] g ((k) * 5) w5)) HI
              have HS := Lib.hid (ins_step HR.out HX.out HV.out HK1.out HGT.out HOI HB9)
              rw [put5] at HS
              clear HI HON HP hog bx4 HB9 HOI hys hgb hno
              go_wp2_with fail
              go_roundw
              case rel => exact ⟨i + 1, some ⟨g, 0, none⟩, _, us.take (k) ++ (.mk k' n' s' la' lc' l' da' dc' d') :: us.drop (k), by omega, rfl, by go_num, HS.out⟩
              case measure => simp [intOf]; omega
          -- its end
        · obtain ⟨k, rfl⟩ : ∃ j, k = j + 1 := ⟨k - 1, by omega⟩
          clear hk0
          obtain ⟨b9, o9, ky, ny, sy, lay, lcy, ly, day, dcy, dy, rfl, hy, hiy, y0, y1, y2, y3, y4⟩ := (((ownL_in HR.out.own).then_ HW.out).then_ HB2.out).five (i := k) (by have := HR.out.len; omega)
          have H2 := Lib.hid (fun w => refCompare_any _ (T.mk k' n' s' la' lc' l' da' dc' d') w (HR.out.own.ok _ (List.mem_of_getElem? hy)) HO.out.ok)
          have HY := Lib.hid hy
          generalize hcv : cmpV (T.mk ky ny sy lay lcy ly day dcy dy).val (T.mk k' n' s' la' lc' l' da' dc' d').val = cv at H2
          have HCV := Lib.hid hcv
          clear hy hcv
          have hiz := HOY.out.in_.then_ HB2.out
          have W1 := IntWalk.i64_in (k : Int) (by omega)
          have W3 : (0 : Int) ≤ (k : Int) := by omega
          have W4 : (k : Int) < (i : Int) := by omega
          by_cases hc : 0 < cv
          · go_wp2_with fail
            go_still_tail 9, (by kernel_rfl)
            change wpList _ _ _ _ _ wr.drew
            go_wp2_with fail
            refine (H2.out wr.drew hiy hiz).mono ?_
            rintro e w3 ⟨rfl, b0⟩
            have b1 : Below wr.heap.size wr w3 := ⟨b0.os, b0.tape, b0.output, b0.size, b0.block⟩
            clear b0 y0 y1 y2 y3 y4 hiy hiz
            go_wp2_with fail
            go_roundw
            case rel =>
              refine ⟨k, by omega, by go_num, below_then HB2.out b1, fun z hz => ?_⟩
              obtain ⟨hj, e9⟩ := List.getElem?_eq_some_iff.1 HY.out
              rw [List.drop_eq_getElem_cons hj, e9] at hz
              rcases List.mem_cons.1 hz with rfl | hz
              · rw [HCV.out]; exact hc
              · exact HGT.out z hz
            case measure => simp [intOf]
          · go_wp2_with fail
            go_still_tail 9, (by kernel_rfl)
            change wpList _ _ _ _ _ wr.drew
            go_wp2_with fail
            refine (H2.out wr.drew hiy hiz).mono ?_
            rintro e w3 ⟨rfl, b0⟩
            have b1 : Below wr.heap.size wr w3 := ⟨b0.os, b0.tape, b0.output, b0.size, b0.block⟩
            have HK1 := Lib.hid (show k + 1 = 0 ∨ ∃ z, us[k + 1 - 1]? = some z ∧ cmpV z.val (T.mk k' n' s' la' lc' l' da' dc' d').val ≤ 0 from .inr ⟨_, HY.out, by rw [HCV.out]; omega⟩)
            have HB3 := Lib.hid (below_then HB2.out b1)
            clear b0 b1 y0 y1 y2 y3 y4 hiy hiz W1 W3 W4 fx
            go_upto_region 9 with (fail)
            obtain ⟨kk, hkk⟩ : ∃ kk : Nat, kk = k + 1 := ⟨_, rfl⟩
            rw [show ((k : Int) + 1) = (kk : Int) by omega]
            rw [← hkk] at hk HK1 HGT
            clear hkk HY HCV
            -- the tail, with k above 0
            have HX2 := Lib.hid (HB3.out)
            have hzx : w1.heap.size + 1 ≤ w3.heap.size := by have := HB3.out.size; omega
            have HROW := Lib.hid (row_keep (row_keep (ownL_row HR.out.own HR.out.len) HW.out) HX2.out)
            have fy : ∀ o, w3.cell? ⟨w1.heap.size, o, none⟩ = (#[.int .i64 k', .int .i64 n', .string s', .slice la' l'.length lc', .slice da' d'.length dc'] : Array Value)[o]? := row_cells (row_then bx.out HX2.out)
            have hle : (i + 1) * 80 ≤ 140737488351232 := by omega
            have hzw : w.heap.size ≤ wo.heap.size := HR.out.below.size
            go_wp2_with (at_builtin; go_loud (refine wpList_append_lies _ rfl (.tmp 34) (.tmp 36) 22 rfl w.heap.size 25 i0 _ 5 80 Tryd.underlying22 I0.out.1 I0.out.2.1 I0.out.2.2.1 I0.out.2.2.2 rfl (by decide) (.slice (some ⟨b9, o9, none⟩) i c) i _ rfl (HROW.out.alloc _) _ 1 1 [.int .i64 k', .int .i64 n', .string s', .slice la' l'.length lc', .slice da' d'.length dc'] rfl rfl (news_at _ _ _ _ (by simp)) (by simp [Value.oneCell']) (by decide) (by unfold maxLen; omega) (by omega) (by simp; omega) _ rfl ?_; intro g cap w4 hown4 hgrow4 hg4 hlt4; have HO4 := Lib.hid hown4; have HG4 := Lib.hid hgrow4; have HD4 := Lib.hid hg4; clear hown4 hgrow4 hg4))
            have hc1 : i + 1 ≤ cap := by
              obtain ⟨_, h2⟩ := HO4.out
              rcases h2 with ⟨hv, _⟩ | ⟨g', cap', cur, hv, hb, hg, hkc, _⟩
              · cases hv
              · injection hv with _ _ e3; omega
            have hc2 := cap_of HO4.out
            have W1 := IntWalk.i64_in (((kk : Nat) : Int) + 1) (by omega)
            have W3 : (0 : Int) ≤ ((kk : Nat) : Int) + 1 := by omega
            have W4 : ((kk : Nat) : Int) + 1 ≤ (i : Int) + 1 := by omega
            have W5 : (((kk : Nat) : Int) + 1).toNat = kk + 1 := by omega
            have W6 : ((kk : Nat) : Int) ≤ (i : Int) + 1 := by omega
            have W7 : ¬ cap = kk := by omega
            by_cases hck : cap = kk + 1
            · have HOFF := Lib.hid (show (0 : Nat) = (kk + 1) * 5 ∨ kk = i from .inr (by omega))
              go_region_law (refine step_copy5 rfl (.tmp 41) (.tmp 44) rfl g (0) (i - (kk)) (0) (by simp [Act.eval, Act.put]; try omega) ⟨g, (kk) * 5, none⟩ (i + 1 - (kk)) (1) (by simp [Act.eval, Act.put]; try omega) ((us.drop (kk)).flatMap T.cells) (ins_len hk HR.out.len) (insert_src (y := .mk k' n' s' la' lc' l' da' dc' d') hk HR.out.len HO4.out.drew) (fun j hj => (ins_room hk HR.out.len HO4.out.drew hc1 HOFF.out j hj).1) (fun j hj => (ins_room hk HR.out.len HO4.out.drew hc1 HOFF.out j hj).2) (cells_one _) ?_)
              all_goals
                have HP := ins_off (w := w4.drew) (g := g) HR.out.len HOFF.out
                have HI := own_insert (y := .mk k' n' s' la' lc' l' da' dc' d') hk HR.out.len HO4.out.drew
                have HSH := own_shift (k := kk) hk HR.out.len HO4.out.drew
                have HON := only_drew_put (w := w4) (g := g) (o := 0) (vs := (us.drop (kk)).flatMap T.cells)
                rw [← HP] at HI HSH
                generalize putCells w4.drew g (0) ((us.drop (kk)).flatMap T.cells) = w5 at HI HSH HON ⊢
                obtain ⟨ys, hys⟩ := HSH
                have hgb := hys.lt g rfl
                have hno : ∀ z, (Value.slice (some ⟨b9, o9, none⟩) i c).ownBlock = some z → w.heap.size ≤ z ∧ z < wo.heap.size := (ownL_row HR.out.own HR.out.len).lt
                have hog : Only ((Value.slice (some ⟨b9, o9, none⟩) i c).ownBlock.toList) w3 w4 := (Only.of_below (below1 _ _)).trans (Only.of_grow HG4.out)
                have bx4 := keep_row hog (row_then bx.out HX2.out) (fun hc => by have := hno _ (by simpa using hc); omega)
                have hgne : ¬ g = w1.heap.size := by
                  rcases HD4.out with h | h
                  · have := hno g h; omega
                  · have h9 : g = w3.heap.size + 1 := by rw [h]; simp
                    omega
                have hgnf : ¬ w1.heap.size = g := fun e => hgne e.symm
                have fy5 : ∀ o, w5.cell? ⟨w1.heap.size, o, none⟩ = (#[.int .i64 k', .int .i64 n', .string s', .slice la' l'.length lc', .slice da' d'.length dc'] : Array Value)[o]? := row_cells (keep_row HON bx4 (by simp; omega))
                obtain ⟨⟨v0, c0⟩, f0⟩ := own_room hys (j := (kk) * 5) (by omega)
                obtain ⟨⟨v1, c1⟩, f1⟩ := own_room hys (j := (kk) * 5 + 1) (by omega)
                obtain ⟨⟨v2, c2⟩, f2⟩ := own_room hys (j := (kk) * 5 + 2) (by omega)
                obtain ⟨⟨v3, c3⟩, f3⟩ := own_room hys (j := (kk) * 5 + 3) (by omega)
                obtain ⟨⟨v4, c4⟩, f4⟩ := own_room hys (j := (kk) * 5 + 4) (by omega)
                have HB9 : Below w.heap.size w (putCells w5 g ((kk) * 5) [.int .i64 k', .int .i64 n', .string s', .slice la' l'.length lc', .slice da' d'.length dc']) := by
                  refine ((((Only.of_below (S := []) (below_then HR.out.below (below_then HW.out HX2.out))).then_ hog (fun z hz => .inr (by have := hno z (by simpa using hz); omega))).then_ HON (by simp; omega)).then_ (put_only [.int .i64 k', .int .i64 n', .string s', .slice la' l'.length lc', .slice da' d'.length dc'] g ((kk) * 5) w5) (by simp; omega)).below
                have HOI := ownL_insert (n := i) (k := kk) HR.out.own HR.out.below.size (HOY.out.keep (Only.of_below (S := []) (below_then HX2.out (below1 w3 (.cells #[.int .i64 k', .int .i64 n', .string s', .slice la' l'.length lc', .slice da' d'.length dc'] 25)))) (by simp) (Nat.le_refl _)) (below_then HW.out (below_then HX2.out (below1 w3 (.cells #[.int .i64 k', .int .i64 n', .string s', .slice la' l'.length lc', .slice da' d'.length dc'] 25)))) HR.out.len (by unfold okLen; omega) HO4.out HG4.out HD4.out (HON.trans (put_only [.int .i64 k', .int .i64 n', .string s', .slice la' l'.length lc', .slice da' d'.length dc'] g ((kk) * 5) w5)) HI
                have HS := Lib.hid (ins_step HR.out HX.out HV.out HK1.out HGT.out HOI HB9)
                rw [put5] at HS
                rw [hck] at HS
                clear HI HON HP hog bx4 HB9 HOI hys hgb hno
                go_wp2_with fail
                go_roundw
                case rel => exact ⟨i + 1, some ⟨g, 0, none⟩, _, us.take (kk) ++ (.mk k' n' s' la' lc' l' da' dc' d') :: us.drop (kk), by omega, rfl, by go_num, HS.out⟩
                case measure => simp [intOf]; omega
            · have HOFF := Lib.hid (show (kk + 1) * 5 = (kk + 1) * 5 ∨ kk = i from .inl rfl)
              go_region_law (refine step_copy5 rfl (.tmp 41) (.tmp 44) rfl g ((kk + 1) * 5) (i - (kk)) (cap - (kk + 1)) (by simp [Act.eval, Act.put]; try omega) ⟨g, (kk) * 5, none⟩ (i + 1 - (kk)) (cap - (kk)) (by simp [Act.eval, Act.put]; try omega) ((us.drop (kk)).flatMap T.cells) (ins_len hk HR.out.len) (insert_src (y := .mk k' n' s' la' lc' l' da' dc' d') hk HR.out.len HO4.out.drew) (fun j hj => (ins_room hk HR.out.len HO4.out.drew hc1 HOFF.out j hj).1) (fun j hj => (ins_room hk HR.out.len HO4.out.drew hc1 HOFF.out j hj).2) (cells_one _) ?_)
              all_goals
                have HP := ins_off (w := w4.drew) (g := g) HR.out.len HOFF.out
                have HI := own_insert (y := .mk k' n' s' la' lc' l' da' dc' d') hk HR.out.len HO4.out.drew
                have HSH := own_shift (k := kk) hk HR.out.len HO4.out.drew
                have HON := only_drew_put (w := w4) (g := g) (o := (kk + 1) * 5) (vs := (us.drop (kk)).flatMap T.cells)
                rw [← HP] at HI HSH
                generalize putCells w4.drew g ((kk + 1) * 5) ((us.drop (kk)).flatMap T.cells) = w5 at HI HSH HON ⊢
                obtain ⟨ys, hys⟩ := HSH
                have hgb := hys.lt g rfl
                have hno : ∀ z, (Value.slice (some ⟨b9, o9, none⟩) i c).ownBlock = some z → w.heap.size ≤ z ∧ z < wo.heap.size := (ownL_row HR.out.own HR.out.len).lt
                have hog : Only ((Value.slice (some ⟨b9, o9, none⟩) i c).ownBlock.toList) w3 w4 := (Only.of_below (below1 _ _)).trans (Only.of_grow HG4.out)
                have bx4 := keep_row hog (row_then bx.out HX2.out) (fun hc => by have := hno _ (by simpa using hc); omega)
                have hgne : ¬ g = w1.heap.size := by
                  rcases HD4.out with h | h
                  · have := hno g h; omega
                  · have h9 : g = w3.heap.size + 1 := by rw [h]; simp
                    omega
                have hgnf : ¬ w1.heap.size = g := fun e => hgne e.symm
                have fy5 : ∀ o, w5.cell? ⟨w1.heap.size, o, none⟩ = (#[.int .i64 k', .int .i64 n', .string s', .slice la' l'.length lc', .slice da' d'.length dc'] : Array Value)[o]? := row_cells (keep_row HON bx4 (by simp; omega))
                obtain ⟨⟨v0, c0⟩, f0⟩ := own_room hys (j := (kk) * 5) (by omega)
                obtain ⟨⟨v1, c1⟩, f1⟩ := own_room hys (j := (kk) * 5 + 1) (by omega)
                obtain ⟨⟨v2, c2⟩, f2⟩ := own_room hys (j := (kk) * 5 + 2) (by omega)
                obtain ⟨⟨v3, c3⟩, f3⟩ := own_room hys (j := (kk) * 5 + 3) (by omega)
                obtain ⟨⟨v4, c4⟩, f4⟩ := own_room hys (j := (kk) * 5 + 4) (by omega)
                have HB9 : Below w.heap.size w (putCells w5 g ((kk) * 5) [.int .i64 k', .int .i64 n', .string s', .slice la' l'.length lc', .slice da' d'.length dc']) := by
                  refine ((((Only.of_below (S := []) (below_then HR.out.below (below_then HW.out HX2.out))).then_ hog (fun z hz => .inr (by have := hno z (by simpa using hz); omega))).then_ HON (by simp; omega)).then_ (put_only [.int .i64 k', .int .i64 n', .string s', .slice la' l'.length lc', .slice da' d'.length dc'] g ((kk) * 5) w5) (by simp; omega)).below
                have HOI := ownL_insert (n := i) (k := kk) HR.out.own HR.out.below.size (HOY.out.keep (Only.of_below (S := []) (below_then HX2.out (below1 w3 (.cells #[.int .i64 k', .int .i64 n', .string s', .slice la' l'.length lc', .slice da' d'.length dc'] 25)))) (by simp) (Nat.le_refl _)) (below_then HW.out (below_then HX2.out (below1 w3 (.cells #[.int .i64 k', .int .i64 n', .string s', .slice la' l'.length lc', .slice da' d'.length dc'] 25)))) HR.out.len (by unfold okLen; omega) HO4.out HG4.out HD4.out (HON.trans (put_only [.int .i64 k', .int .i64 n', .string s', .slice la' l'.length lc', .slice da' d'.length dc'] g ((kk) * 5) w5)) HI
                have HS := Lib.hid (ins_step HR.out HX.out HV.out HK1.out HGT.out HOI HB9)
                rw [put5] at HS
                clear HI HON HP hog bx4 HB9 HOI hys hgb hno
                go_wp2_with fail
                go_roundw
                case rel => exact ⟨i + 1, some ⟨g, 0, none⟩, _, us.take (kk) ++ (.mk k' n' s' la' lc' l' da' dc' d') :: us.drop (kk), by omega, rfl, by go_num, HS.out⟩
                case measure => simp [intOf]; omega
            -- its end too
    · have hil : i = l.length := by omega
      subst hil
      go_wp2_with fail
      go_ret
      exact ⟨a, c, us, rfl, ins_done HR.out, HR.out.own, HR.out.below⟩
end Go.Proofs.YtlmlehjfockkpaaDoor
