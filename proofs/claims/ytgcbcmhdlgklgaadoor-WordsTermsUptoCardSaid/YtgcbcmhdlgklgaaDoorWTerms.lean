/- Which words a value has, how often, by the document: contract. Over XYT. No statement is proved here. -/
import Derived.Test.YtgcbcmhdlgklgaaDoorWTTo
import Derived.Test.YtgcbcmhdlgklgaaDoorWScore
namespace Go.Proofs.YtgcbcmhdlgklgaaDoor
open Go.RowKit Go.Lib
set_option maxRecDepth 100000

theorem bump_at {L : List Tm} {j : Nat} {p : Tm} {x : List Int} (hp : L[j]? = some p) (hj : ∀ q ∈ L.take j, ltW q.1 x = true) (e : p.1 = x) : bump L x = L.set j (p.1, p.2 + 1) := by
  have h := lt_of_get hp
  subst e
  conv => lhs; rw [take_at hp, bump_skip _ _ _ hj]
  rw [List.set_eq_take_append_cons_drop, if_pos h]
  congr 1
  exact bump_met _ _ _
theorem bump_in {L : List Tm} {j : Nat} {x : List Int} (hj : ∀ q ∈ L.take j, ltW q.1 x = true) (h : ∀ p, L[j]? = some p → p.1 ≠ x ∧ ltW p.1 x = false) : bump L x = L.take j ++ (x, 1) :: L.drop j := by
  conv => lhs; rw [← List.take_append_drop j L, bump_skip _ _ _ hj]
  rw [bump_new x (L.drop j) fun p hp => h p (by rw [List.head?_drop] at hp; exact hp)]
theorem key_not {L : List Tm} {j : Nat} {x : List Int} (hs : SortT L) (hj : ∀ q ∈ L.take j, ltW q.1 x = true) (h : ∀ p, L[j]? = some p → p.1 ≠ x ∧ ltW p.1 x = false) : x ∉ keysT L := by
  intro hm
  obtain ⟨q, hq, e⟩ := List.mem_map.1 hm
  rw [← List.take_append_drop j L] at hq hs
  rcases List.mem_append.1 hq with hq | hq
  · have := hj q hq
    rw [show q.1 = x from e, ltW_irrefl] at this
    cases this
  · cases hd : L.drop j with
    | nil => rw [hd] at hq; cases hq
    | cons p r =>
      have hp : L[j]? = some p := by rw [← List.head?_drop, hd]; rfl
      obtain ⟨h1, h2⟩ := h p hp
      rw [hd] at hq hs
      rcases List.mem_cons.1 hq with rfl | hq
      · exact h1 e
      · have h3 := (List.pairwise_cons.1 (List.pairwise_append.1 hs).2.1).1 q hq
        rw [show q.1 = x from e] at h3
        rw [h3] at h2
        cases h2
/-- The words counted so far. -/
structure TR (us : List (List Int)) (w0 wr : World) (u : Value) (m : Nat) (L : List Tm) : Prop where
  row : OwnT wr w0.heap.size u L
  below : Below w0.heap.size w0 wr
  run : termsF (us.take m) [] = some L
  cnt : Counted (us.take m) L
theorem TR.start (us : List (List Int)) (w : World) : TR us w w (.slice none 0 0) 0 [] := ⟨OwnT.nil _ _, Below.refl _ _, rfl, Counted.nil⟩
theorem TR.step {us : List (List Int)} {w0 wr w3 : World} {u v : Value} {m : Nat} {L L' : List Tm} (h : TR us w0 wr u m L) (hus : ∀ x ∈ us, isB x) {x : List Int} (hx : us[m]? = some x) (e : addW L x = some L') (ho : OwnT w3 w0.heap.size v L') (hb : Below w0.heap.size w0 w3) : TR us w0 w3 v (m + 1) L' := by
  refine ⟨ho, hb, by rw [termsF_step hx h.run, e], ?_⟩
  rw [List.take_add_one, hx, Option.toList_some]
  exact h.cnt.add (fun y hy => hus y (List.mem_of_mem_take hy)) (hus x (List.mem_of_getElem? hx)) e
theorem put2 (w : World) (g o : Nat) (a b : Value) : putCells w g o [a, b] = (w.setCell ⟨g, o, none⟩ a).setCell ⟨g, o + 1, none⟩ b := rfl
theorem below_drewX {B : Nat} {a w : World} (h : Below B a w) (n : Nat) : Below B a (w.drewN n) := ⟨h.os, h.tape, h.output, h.size, h.block⟩
theorem only_growT {w w' : World} {row : Option Nat} (h : w.grownBy w' row) : Only row.toList w w' := ⟨h.os, h.tape, h.output, h.size, fun k hk hn => h.block k hk (by rintro rfl; exact hn (by simp))⟩
theorem cap_ofT {w : World} {B : Nat} {e : TypeId} {c g n cap : Nat} {xs : List Value} (h : w.ownsRow B e c (.slice (some ⟨g, 0, none⟩) n cap) n xs) : n ≤ cap ∧ cap ≤ 9223372036854775807 := by
  obtain ⟨_, h2⟩ := h
  rcases h2 with ⟨hv, _⟩ | ⟨g', cap', cur, hv, hb, hg, hkc, hm, _⟩
  · cases hv
  · injection hv with _ _ e3; unfold maxLen at hm; omega
theorem InW.cell {w : World} {g o : Nat} {ws : List (List Int)} (h : InW w (some ⟨g, o, none⟩) ws) {i : Nat} {x : List Int} (hx : ws[i]? = some x) : w.cell? ⟨g, o + i, none⟩ = some (.string (strOfNums x)) := by
  obtain ⟨b, q, e, hc⟩ := h i x hx
  injection e with e
  injection e with e1 e2
  subst e1 e2
  exact hc
theorem OwnT.raise {w : World} {B : Nat} {v : Value} {L : List Tm} (h : OwnT w B v L) {C : Nat} (hC : C ≤ B) : OwnT w C v L := by
  obtain ⟨h1, h2⟩ := h
  refine ⟨h1, ?_⟩
  rcases h2 with h2 | ⟨g, cap, cur, hv, hB, hrest⟩
  · exact .inl h2
  · exact .inr ⟨g, cap, cur, hv, Nat.le_trans hC hB, hrest⟩
set_option maxHeartbeats 8000000 in
theorem rterms_any (t : T) (ok : t.ok) (w : World) (hin : t.In w) (hT : TabsW w) (hm : (allW t.val).length ≤ 1000000000000) :
    Calls Tryd.prog 13 #[t.arg] w (TermsTo w (termsF (allW t.val) [])) := by
  obtain ⟨i0, hi0, hz0, hz1, hz2⟩ := info_parts info_term
  have I0 := Lib.hid (And.intro hi0 (And.intro hz0 (And.intro hz1 hz2)))
  clear hi0 hz0 hz1 hz2
  obtain ⟨k, n, q, la, lc, l, da, dc, d⟩ := t
  have AA := Lib.hid (all_any _ ok (w.alloc (.cells #[.int .i64 k, .int .i64 n, .string q, .slice la l.length lc, .slice da d.length dc] 30)) (hin.then_ (below1 _ _)) (hT.then_ (below1 _ _)) hm)
  have HW := Lib.hid (below1 w (.cells #[.int .i64 k, .int .i64 n, .string q, .slice la l.length lc, .slice da d.length dc] 30))
  have hare : ∀ x ∈ allW (T.val (.mk k n q la lc l da dc d)), isWord x := allW_are _
  show Calls _ _ #[.agg #[.int .i64 k, .int .i64 n, .string q, .slice la l.length lc, .slice da d.length dc]] _ _
  generalize allW (T.val (.mk k n q la lc l da dc d)) = us at *
  have HARE := Lib.hid (And.intro hare fun x hx => word_isB (hare x hx))
  clear ok hin hT hare
  go_enter Tryd.func13, Tryd.ntmps13
  go_wp2_with fail
  refine AA.out.mono ?_
  rintro e w1 ⟨v1, rfl, o1, b1⟩
  obtain ⟨a1, c1, rfl, i1, -, -, z1⟩ := o1.shape
  have B1 := Lib.hid (below_then HW.out b1)
  have I1 := Lib.hid i1
  clear o1 b1 i1 z1 AA HW
  obtain ⟨nu, hnu⟩ : ∃ nu, us.length = nu := ⟨_, rfl⟩
  rw [hnu] at hm ⊢
  have HN := Lib.hid hnu
  clear hnu
  go_wp2_with fail
  go_loopw [5, 6, 7] (fun u i kk wr => ∃ (m : Nat) (L : List Tm), m ≤ nu ∧ i = .int .i64 m ∧ Hid (TR us w1 wr u m L)) (fun _ i _ _ => nu - (intOf i).toNat)
  case atStart => exact ⟨0, [], by omega, rfl, Lib.hid (TR.start us w1)⟩
  case round =>
    obtain ⟨m, L, hmn, rfl, HK⟩ := hrel
    obtain ⟨au, cu, rfl, -⟩ := HK.out.row.form
    have few := HK.out.cnt.few
    obtain ⟨nL, hnL⟩ : ∃ nL, L.length = nL := ⟨_, rfl⟩
    rw [hnL] at few ⊢
    have HL := Lib.hid hnL
    clear hnL
    by_cases hlt : m < nu
    · obtain ⟨x, hx⟩ : ∃ x, us[m]? = some x := ⟨_, List.getElem?_eq_getElem (by rw [HN.out]; exact hlt)⟩
      have HX := Lib.hid hx
      have m0 : (0 : Int) ≤ (m : Int) := by omega
      have m1 : (m : Int) < (nu : Int) := by omega
      clear hx
      go_wp2_with fail
      go_loopw [7] (fun kk wq => ∃ j : Nat, j ≤ nL ∧ kk = .int .i64 j ∧ Hid (Below wr.heap.size wr wq) ∧ Hid (∀ p ∈ L.take j, ltW p.1 x = true)) (fun kk _ => nL - (intOf kk).toNat)
      case atStart => exact ⟨0, by omega, rfl, Lib.hid (Below.refl _ _), Lib.hid (by simp)⟩
      case round =>
        obtain ⟨j, hj, rfl, HB, HJ⟩ := hrel
        have HBW := Lib.hid (below_then HK.out.below HB.out)
        obtain ⟨g1, p1, rfl, c1⟩ := (I1.out.then_ HBW.out) m x HX.out
        by_cases hjl : j < nL
        · obtain ⟨p, hp⟩ : ∃ p, L[j]? = some p := ⟨_, List.getElem?_eq_getElem (by rw [HL.out]; exact hjl)⟩
          obtain ⟨g2, rfl, d0, d1, d2⟩ := OwnT.at_ (by have h := HK.out.row.then_ HB.out; rw [HL.out] at h; exact h) hp
          have HP := Lib.hid hp
          have j0 : (0 : Int) ≤ (j : Int) := by omega
          have j1 : (j : Int) < (nL : Int) := by omega
          clear hp
          cases hlp : ltW p.1 x
          · have hs : Op.bytesLess (strOfNums p.1).toList (strOfNums x).toList = false := hlp
            have HLP := Lib.hid hlp
            clear hlp
            have hpm : p.1 ∈ us.take m := (HK.out.cnt.keys p.1).1 (List.mem_map.2 ⟨p, List.mem_of_getElem? HP.out, rfl⟩)
            have hsame := fun n => word_same (HARE.out.1 p.1 (List.mem_of_mem_take hpm)) (HARE.out.1 x (List.mem_of_getElem? HX.out)) n
            have hcnt : p.2 ≤ nu := by
              rw [HK.out.cnt.count p (List.mem_of_getElem? HP.out), ← HN.out]
              exact Nat.le_trans List.count_le_length (by rw [List.length_take]; omega)
            clear hpm
            cases he : decide (p.1 = x)
            · have hs1 := hsame false he
              have HH : Hid (∀ p, L[j]? = some p → p.1 ≠ x ∧ ltW p.1 x = false) := Lib.hid (fun r hr => by rw [HP.out] at hr; cases hr; exact ⟨of_decide_eq_false he, HLP.out⟩)
              clear hsame he
              have HNK : Hid (x ∉ keysT L ∧ bump L x = L.take j ++ (x, 1) :: L.drop j) := Lib.hid ⟨key_not HK.out.cnt.sorted HJ.out HH.out, bump_in HJ.out HH.out⟩
              by_cases hfull : 200 ≤ nL
              · go_wp2_with fail
                go_quiet (fail)
                generalize nq = n1
                go_wp2_with fail
                go_quiet (fail)
                go_wp2_with fail
                go_ret2
                refine ⟨?_, below_then B1.out ⟨HBW.out.os, HBW.out.tape, HBW.out.output, HBW.out.size, HBW.out.block⟩⟩
                rw [termsF_fail HX.out HK.out.run (show addW L x = none by rw [addW, if_pos ⟨HNK.out.1, by rw [HL.out]; omega⟩])]
                rfl
              · have HADD : Hid (addW L x = some (L.take j ++ (x, 1) :: L.drop j)) := Lib.hid (by rw [addW, if_neg (fun h => hfull (by have := h.2; rw [HL.out] at this; exact this)), HNK.out.2])
                go_wp2_with fail
                go_quiet (fail)
                generalize nq = n1
                go_wp2_with fail
                go_quiet (fail)
                have HX2 := Lib.hid (below_drewX HBW.out (n1 + nq))
                have HROW := Lib.hid (show (wr.drewN (n1 + nq)).ownsRow w1.heap.size 39 2 (.slice (some ⟨g2, 0, none⟩) nL cu) nL (L.flatMap tcells) from by have h := HK.out.row.then_ (below_drewX HB.out (n1 + nq)); rw [HL.out] at h; unfold OwnT at h; rw [HL.out] at h; exact h)
                have hzw : w1.heap.size ≤ (wr.drewN (n1 + nq)).heap.size := HX2.out.size
                go_wp2_with (at_builtin; go_loud (refine wpList_append_lies _ rfl (.tmp 61) (.tmp 63) 32 rfl w1.heap.size 39 i0 _ 2 24 Tryd.underlying32 I0.out.1 I0.out.2.1 I0.out.2.2.1 I0.out.2.2.2 rfl (by decide) (.slice (some ⟨g2, 0, none⟩) nL cu) nL _ rfl (HROW.out.alloc _) _ 1 1 [.string ⟨#[]⟩, .int .i64 0] rfl rfl (news_at _ _ _ _ (by simp)) (by simp [Value.oneCell']) (by decide) (by unfold maxLen; omega) (by omega) (by simp; simp at hzw; omega) _ rfl ?_; intro g cap w4 hown4 hgrow4 hg4 hlt4; have HO4 := Lib.hid (show w4.ownsRow w1.heap.size 39 2 (.slice (some ⟨g, 0, none⟩) (nL + 1) cap) (nL + 1) (L.flatMap tcells ++ tcells ([], 0)) from hown4); have HG4 := Lib.hid hgrow4; have HD4 := Lib.hid hg4; clear hown4 hgrow4 hg4))
                obtain ⟨hc1, hc2⟩ := cap_ofT HO4.out
                have W1 := IntWalk.i64_in (((j : Nat) : Int) + 1) (by omega)
                have W3 : (0 : Int) ≤ ((j : Nat) : Int) + 1 := by omega
                have W4 : ((j : Nat) : Int) + 1 ≤ (nL : Int) + 1 := by omega
                have W5 : (((j : Nat) : Int) + 1).toNat = j + 1 := by omega
                have W6 : ((j : Nat) : Int) ≤ (nL : Int) + 1 := by omega
                have W7 : ¬ cap = j := by omega
                have hno : Hid (∀ z, (Value.slice (some ⟨g2, 0, none⟩) nL cu).ownBlock = some z → w1.heap.size ≤ z ∧ z < wr.heap.size) := Lib.hid (fun z hz => HROW.out.lt z hz)
                have hog : Hid (Only ((Value.slice (some ⟨g2, 0, none⟩) nL cu).ownBlock.toList) (wr.drewN (n1 + nq)) w4) := Lib.hid ((Only.of_below (below1 _ _)).trans (only_growT HG4.out))
                have hgw : w1.heap.size ≤ g := (HO4.out.lt g rfl).1
                by_cases hck : cap = j + 1
                · exfalso; omega
                · have HOFF := Lib.hid (show (j + 1) * 2 = (j + 1) * 2 ∨ j = nL from .inl rfl)
                  go_region_law (refine step_copy2 rfl (.tmp 68) (.tmp 71) rfl g ((j + 1) * 2) (nL - j) (cap - (j + 1)) (by simp [Act.eval, Act.put]; try omega) ⟨g, j * 2, none⟩ (nL + 1 - j) (cap - j) (by simp [Act.eval, Act.put]; try omega) ((L.drop j).flatMap tcells) (ins_len2 hj HL.out) (insert_src2 (y := ([], 0)) hj HL.out HO4.out.drew) (fun q hq => (ins_room2 hj HL.out HO4.out.drew hc1 HOFF.out q hq).1) (fun q hq => (ins_room2 hj HL.out HO4.out.drew hc1 HOFF.out q hq).2) (cells_oneT _) ?_)
                  all_goals
                    have HP2 := ins_off2 (w := w4.drew) (g := g) HL.out HOFF.out
                    have HI := own_insert2 (y := (x, 1)) (z := ([], 0)) hj HL.out HO4.out.drew
                    have HSH := own_shift2 (k := j) hj HL.out HO4.out.drew
                    have HON := only_drew_put (w := w4) (g := g) (o := (j + 1) * 2) (vs := (L.drop j).flatMap tcells)
                    rw [← HP2] at HI HSH
                    generalize putCells w4.drew g ((j + 1) * 2) ((L.drop j).flatMap tcells) = w5 at HI HSH HON ⊢
                    obtain ⟨ys, hys⟩ := HSH
                    have hgb := hys.lt g rfl
                    have HB5 := Lib.hid (((Only.of_below (S := []) HX2.out).then_ hog.out (fun z hz => .inr (by have := hno.out z (by simpa using hz); omega))).then_ HON (by simp; omega)).below
                    have c5 := (I1.out.then_ HB5.out).cell HX.out
                    obtain ⟨⟨v0, q0⟩, f0⟩ := own_room hys (j := j * 2) (by omega)
                    obtain ⟨⟨v1, q1⟩, f1⟩ := own_room hys (j := j * 2 + 1) (by omega)
                    have HB9 : Below w1.heap.size w1 (putCells w5 g (j * 2) (tcells (x, 1))) := ((Only.of_below (S := []) HB5.out).then_ (put_only (tcells (x, 1)) g (j * 2) w5) (by simp; omega)).below
                    have HO9 : OwnT (putCells w5 g (j * 2) (tcells (x, 1))) w1.heap.size (.slice (some ⟨g, 0, none⟩) (nL + 1) cap) (L.take j ++ (x, 1) :: L.drop j) := by
                      unfold OwnT
                      rw [show (L.take j ++ (x, 1) :: L.drop j).length = nL + 1 by rw [List.length_append, List.length_cons, List.length_take, List.length_drop, HL.out]; omega]
                      exact HI
                    have HS := Lib.hid (HK.out.step HARE.out.2 HX.out HADD.out HO9 HB9)
                    rw [show tcells (x, 1) = [.string (strOfNums x), .int .i64 1] from rfl, put2] at HS
                    clear HI HON HP2 HB9 HO9 hys hgb
                    go_wp2_with fail
                    go_roundw
                    case rel => exact ⟨m + 1, _, by omega, by go_num, HS⟩
                    case measure => simp [intOf]; omega
            · have hs1 := hsame true he
              have HE := Lib.hid (of_decide_eq_true he)
              clear hsame he
              obtain ⟨ho, hg⟩ := OwnT.count (by have h := HK.out.row.then_ HB.out; rw [HL.out] at h; exact h) HP.out (p.2 + 1)
              have HO := Lib.hid (And.intro ho hg)
              have HADD : Hid (addW L x = some (L.set j (p.1, p.2 + 1))) := Lib.hid (by rw [addW, if_neg (fun h => h.1 (List.mem_map.2 ⟨p, List.mem_of_getElem? HP.out, HE.out⟩)), bump_at HP.out HJ.out HE.out])
              clear ho hg
              go_wp2_with fail
              go_quiet (fail)
              go_wp2_with fail
              go_quiet (fail)
              go_wp2_with fail
              go_roundw
              case rel => exact ⟨m + 1, _, by omega, by go_num, Lib.hid (HK.out.step HARE.out.2 HX.out HADD.out HO.out.1 (by have h := HBW.out.grown HO.out.2 HBW.out.size (fun g hg => (HK.out.row.block g (by rw [HL.out]; exact hg)).1); exact ⟨h.os, h.tape, h.output, h.size, h.block⟩))⟩
              case measure => simp [intOf]; omega
          · have hs : Op.bytesLess (strOfNums p.1).toList (strOfNums x).toList = true := hlp
            have HLP := Lib.hid hlp
            clear hlp
            go_wp2_with fail
            go_quiet (fail)
            go_wp2_with fail
            go_roundw
            case rel => exact ⟨j + 1, by omega, by go_num, Lib.hid ⟨HB.out.os, HB.out.tape, HB.out.output, HB.out.size, HB.out.block⟩, Lib.hid (by
              intro r hr
              rw [List.take_add_one, HP.out, Option.toList_some] at hr
              rcases List.mem_append.1 hr with hr | hr
              · exact HJ.out r hr
              · rw [List.mem_singleton.1 hr]; exact HLP.out)⟩
            case measure => simp [intOf]; omega
        · have HH : Hid (∀ p, L[j]? = some p → p.1 ≠ x ∧ ltW p.1 x = false) := Lib.hid (fun r hr => by have := lt_of_get hr; rw [HL.out] at this; omega)
          have HNK : Hid (x ∉ keysT L ∧ bump L x = L.take j ++ (x, 1) :: L.drop j) := Lib.hid ⟨key_not HK.out.cnt.sorted HJ.out HH.out, bump_in HJ.out HH.out⟩
          by_cases hfull : 200 ≤ nL
          · go_wp2_with fail
            go_quiet (fail)
            generalize nq = n1
            go_wp2_with fail
            go_quiet (fail)
            go_wp2_with fail
            go_ret2
            refine ⟨?_, below_then B1.out ⟨HBW.out.os, HBW.out.tape, HBW.out.output, HBW.out.size, HBW.out.block⟩⟩
            rw [termsF_fail HX.out HK.out.run (show addW L x = none by rw [addW, if_pos ⟨HNK.out.1, by rw [HL.out]; omega⟩])]
            rfl
          · have HADD : Hid (addW L x = some (L.take j ++ (x, 1) :: L.drop j)) := Lib.hid (by rw [addW, if_neg (fun h => hfull (by have := h.2; rw [HL.out] at this; exact this)), HNK.out.2])
            go_wp2_with fail
            go_quiet (fail)
            generalize nq = n1
            go_wp2_with fail
            go_quiet (fail)
            have HX2 := Lib.hid (below_drewX HBW.out (n1 + nq))
            have HROW := Lib.hid (show (wr.drewN (n1 + nq)).ownsRow w1.heap.size 39 2 (.slice au nL cu) nL (L.flatMap tcells) from by have h := HK.out.row.then_ (below_drewX HB.out (n1 + nq)); rw [HL.out] at h; unfold OwnT at h; rw [HL.out] at h; exact h)
            have hzw : w1.heap.size ≤ (wr.drewN (n1 + nq)).heap.size := HX2.out.size
            go_wp2_with (at_builtin; go_loud (refine wpList_append_lies _ rfl (.tmp 61) (.tmp 63) 32 rfl w1.heap.size 39 i0 _ 2 24 Tryd.underlying32 I0.out.1 I0.out.2.1 I0.out.2.2.1 I0.out.2.2.2 rfl (by decide) (.slice au nL cu) nL _ rfl (HROW.out.alloc _) _ 1 1 [.string ⟨#[]⟩, .int .i64 0] rfl rfl (news_at _ _ _ _ (by simp)) (by simp [Value.oneCell']) (by decide) (by unfold maxLen; omega) (by omega) (by simp; simp at hzw; omega) _ rfl ?_; intro g cap w4 hown4 hgrow4 hg4 hlt4; have HO4 := Lib.hid (show w4.ownsRow w1.heap.size 39 2 (.slice (some ⟨g, 0, none⟩) (nL + 1) cap) (nL + 1) (L.flatMap tcells ++ tcells ([], 0)) from hown4); have HG4 := Lib.hid hgrow4; have HD4 := Lib.hid hg4; clear hown4 hgrow4 hg4))
            obtain ⟨hc1, hc2⟩ := cap_ofT HO4.out
            have W1 := IntWalk.i64_in (((j : Nat) : Int) + 1) (by omega)
            have W3 : (0 : Int) ≤ ((j : Nat) : Int) + 1 := by omega
            have W4 : ((j : Nat) : Int) + 1 ≤ (nL : Int) + 1 := by omega
            have W5 : (((j : Nat) : Int) + 1).toNat = j + 1 := by omega
            have W6 : ((j : Nat) : Int) ≤ (nL : Int) + 1 := by omega
            have W7 : ¬ cap = j := by omega
            have hno : Hid (∀ z, (Value.slice au nL cu).ownBlock = some z → w1.heap.size ≤ z ∧ z < wr.heap.size) := Lib.hid (fun z hz => HROW.out.lt z hz)
            have hog : Hid (Only ((Value.slice au nL cu).ownBlock.toList) (wr.drewN (n1 + nq)) w4) := Lib.hid ((Only.of_below (below1 _ _)).trans (only_growT HG4.out))
            have hgw : w1.heap.size ≤ g := (HO4.out.lt g rfl).1
            by_cases hck : cap = j + 1
            · have HOFF := Lib.hid (show (0 : Nat) = (j + 1) * 2 ∨ j = nL from .inr (by omega))
              go_region_law (refine step_copy2 rfl (.tmp 68) (.tmp 71) rfl g (0) (nL - j) (0) (by simp [Act.eval, Act.put]; try omega) ⟨g, j * 2, none⟩ (nL + 1 - j) (1) (by simp [Act.eval, Act.put]; try omega) ((L.drop j).flatMap tcells) (ins_len2 hj HL.out) (insert_src2 (y := ([], 0)) hj HL.out HO4.out.drew) (fun q hq => (ins_room2 hj HL.out HO4.out.drew hc1 HOFF.out q hq).1) (fun q hq => (ins_room2 hj HL.out HO4.out.drew hc1 HOFF.out q hq).2) (cells_oneT _) ?_)
              all_goals
                have HP2 := ins_off2 (w := w4.drew) (g := g) HL.out HOFF.out
                have HI := own_insert2 (y := (x, 1)) (z := ([], 0)) hj HL.out HO4.out.drew
                have HSH := own_shift2 (k := j) hj HL.out HO4.out.drew
                have HON := only_drew_put (w := w4) (g := g) (o := 0) (vs := (L.drop j).flatMap tcells)
                rw [← HP2] at HI HSH
                generalize putCells w4.drew g (0) ((L.drop j).flatMap tcells) = w5 at HI HSH HON ⊢
                obtain ⟨ys, hys⟩ := HSH
                have hgb := hys.lt g rfl
                have HB5 := Lib.hid (((Only.of_below (S := []) HX2.out).then_ hog.out (fun z hz => .inr (by have := hno.out z (by simpa using hz); omega))).then_ HON (by simp; omega)).below
                have c5 := (I1.out.then_ HB5.out).cell HX.out
                obtain ⟨⟨v0, q0⟩, f0⟩ := own_room hys (j := j * 2) (by omega)
                obtain ⟨⟨v1, q1⟩, f1⟩ := own_room hys (j := j * 2 + 1) (by omega)
                have HB9 : Below w1.heap.size w1 (putCells w5 g (j * 2) (tcells (x, 1))) := ((Only.of_below (S := []) HB5.out).then_ (put_only (tcells (x, 1)) g (j * 2) w5) (by simp; omega)).below
                have HO9 : OwnT (putCells w5 g (j * 2) (tcells (x, 1))) w1.heap.size (.slice (some ⟨g, 0, none⟩) (nL + 1) cap) (L.take j ++ (x, 1) :: L.drop j) := by
                  unfold OwnT
                  rw [show (L.take j ++ (x, 1) :: L.drop j).length = nL + 1 by rw [List.length_append, List.length_cons, List.length_take, List.length_drop, HL.out]; omega]
                  exact HI
                have HS := Lib.hid (HK.out.step HARE.out.2 HX.out HADD.out HO9 HB9)
                rw [show tcells (x, 1) = [.string (strOfNums x), .int .i64 1] from rfl, put2] at HS; rw [hck] at HS
                clear HI HON HP2 HB9 HO9 hys hgb
                go_wp2_with fail
                go_roundw
                case rel => exact ⟨m + 1, _, by omega, by go_num, HS⟩
                case measure => simp [intOf]; omega
            · have HOFF := Lib.hid (show (j + 1) * 2 = (j + 1) * 2 ∨ j = nL from .inl rfl)
              go_region_law (refine step_copy2 rfl (.tmp 68) (.tmp 71) rfl g ((j + 1) * 2) (nL - j) (cap - (j + 1)) (by simp [Act.eval, Act.put]; try omega) ⟨g, j * 2, none⟩ (nL + 1 - j) (cap - j) (by simp [Act.eval, Act.put]; try omega) ((L.drop j).flatMap tcells) (ins_len2 hj HL.out) (insert_src2 (y := ([], 0)) hj HL.out HO4.out.drew) (fun q hq => (ins_room2 hj HL.out HO4.out.drew hc1 HOFF.out q hq).1) (fun q hq => (ins_room2 hj HL.out HO4.out.drew hc1 HOFF.out q hq).2) (cells_oneT _) ?_)
              all_goals
                have HP2 := ins_off2 (w := w4.drew) (g := g) HL.out HOFF.out
                have HI := own_insert2 (y := (x, 1)) (z := ([], 0)) hj HL.out HO4.out.drew
                have HSH := own_shift2 (k := j) hj HL.out HO4.out.drew
                have HON := only_drew_put (w := w4) (g := g) (o := (j + 1) * 2) (vs := (L.drop j).flatMap tcells)
                rw [← HP2] at HI HSH
                generalize putCells w4.drew g ((j + 1) * 2) ((L.drop j).flatMap tcells) = w5 at HI HSH HON ⊢
                obtain ⟨ys, hys⟩ := HSH
                have hgb := hys.lt g rfl
                have HB5 := Lib.hid (((Only.of_below (S := []) HX2.out).then_ hog.out (fun z hz => .inr (by have := hno.out z (by simpa using hz); omega))).then_ HON (by simp; omega)).below
                have c5 := (I1.out.then_ HB5.out).cell HX.out
                obtain ⟨⟨v0, q0⟩, f0⟩ := own_room hys (j := j * 2) (by omega)
                obtain ⟨⟨v1, q1⟩, f1⟩ := own_room hys (j := j * 2 + 1) (by omega)
                have HB9 : Below w1.heap.size w1 (putCells w5 g (j * 2) (tcells (x, 1))) := ((Only.of_below (S := []) HB5.out).then_ (put_only (tcells (x, 1)) g (j * 2) w5) (by simp; omega)).below
                have HO9 : OwnT (putCells w5 g (j * 2) (tcells (x, 1))) w1.heap.size (.slice (some ⟨g, 0, none⟩) (nL + 1) cap) (L.take j ++ (x, 1) :: L.drop j) := by
                  unfold OwnT
                  rw [show (L.take j ++ (x, 1) :: L.drop j).length = nL + 1 by rw [List.length_append, List.length_cons, List.length_take, List.length_drop, HL.out]; omega]
                  exact HI
                have HS := Lib.hid (HK.out.step HARE.out.2 HX.out HADD.out HO9 HB9)
                rw [show tcells (x, 1) = [.string (strOfNums x), .int .i64 1] from rfl, put2] at HS
                clear HI HON HP2 HB9 HO9 hys hgb
                go_wp2_with fail
                go_roundw
                case rel => exact ⟨m + 1, _, by omega, by go_num, HS⟩
                case measure => simp [intOf]; omega
    · have e : us.take m = us := List.take_of_length_le (by rw [HN.out]; omega)
      have HR := Lib.hid HK.out.run
      rw [e] at HR
      go_wp2_with fail
      go_ret2
      refine ⟨?_, below_then B1.out HK.out.below⟩
      rw [HR.out]
      have h := HK.out.row
      rw [HL.out] at h
      exact ⟨_, rfl, OwnT.raise h B1.out.size⟩

end Go.Proofs.YtgcbcmhdlgklgaaDoor
