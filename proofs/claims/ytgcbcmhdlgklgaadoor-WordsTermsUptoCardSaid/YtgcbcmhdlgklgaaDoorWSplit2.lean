/- The document's own Split: its contract. No statement is proved here. -/
import Derived.Test.YtgcbcmhdlgklgaaDoorWSplit
import Derived.Test.YtgcbcmhdlgklgaaDoorWRow
namespace Go.Proofs.YtgcbcmhdlgklgaaDoor
open Go.RowKit Go.Lib
set_option maxRecDepth 100000

theorem OwnB.rowIn {w : World} {B n c : Nat} {a : Option Addr} {l : List Int} (h : OwnB w B (.slice a n c) l) : InB w a l := by
  obtain ⟨a', c', e, hin, -⟩ := h.shape
  injection e with e
  subst e
  exact hin
/-- How it stands at a place: what is still to come makes the answer. -/
structure SpAt (w wr : World) (bs : List Int) (pos : Nat) (vs vw : Value) (ws : List (List Int)) (wd : List Int) (Bw : Nat) : Prop where
  todo : pos ≤ bs.length → splitL bs = (ws ++ wordsR (runesL (bs.drop pos)) wd).take 200
  done : pos = bs.length + 1 → splitL bs = ws
  few : ws.length ≤ 200
  short : wd.length ≤ pos
  rowS : OwnS wr w.heap.size vs ws
  rowW : OwnB wr Bw vw wd
  apart : ∀ g, vs.ownBlock = some g → g < Bw
  base : w.heap.size ≤ Bw ∧ Bw ≤ wr.heap.size
  below : Below w.heap.size w wr
theorem SpAt.start (w : World) (bs : List Int) : SpAt w w bs 0 (.slice none 0 0) (.slice none 0 0) [] [] w.heap.size :=
  ⟨fun _ => rfl, fun h => by omega, by simp, by simp, OwnS.nil _ _, OwnB.nil _ _, (fun g h => by cases h), ⟨Nat.le_refl _, Nat.le_refl _⟩, Below.refl _ _⟩
/-- A word that ends: kept if it fits. -/
def endW (ws : List (List Int)) (wd : List Int) : List (List Int) := if (0 < wd.length ∧ wd.length ≤ 40) ∧ ws.length < 200 then ws ++ [wd] else ws
theorem endW_take (ws : List (List Int)) (wd : List Int) (rest : List (List Int)) (h : ws.length ≤ 200) : (ws ++ (finW wd ++ rest)).take 200 = (endW ws wd ++ rest).take 200 ∧ (endW ws wd).length ≤ 200 := by
  unfold endW finW
  by_cases h1 : 1 ≤ wd.length ∧ wd.length ≤ 40
  · by_cases h2 : ws.length < 200
    · rw [if_pos h1, if_pos ⟨⟨by omega, h1.2⟩, h2⟩, List.append_assoc]
      exact ⟨rfl, by simp; omega⟩
    · rw [if_neg (show ¬ ((0 < wd.length ∧ wd.length ≤ 40) ∧ ws.length < 200) from fun h => h2 h.2)]
      refine ⟨?_, h⟩
      rw [List.take_append_of_le_length (by omega), List.take_append_of_le_length (by omega)]
  · rw [if_neg h1, if_neg (show ¬ ((0 < wd.length ∧ wd.length ≤ 40) ∧ ws.length < 200) from fun h => h1 ⟨by omega, h.1.2⟩)]
    exact ⟨rfl, h⟩
/-- A step of the loop: what is behind a letter, behind another rune, at the end. -/
theorem runes_at {bs : List Int} {pos : Nat} (h : pos < bs.length) : runesL (bs.drop pos) = ((decL (bs.drop pos)).1 : Int) :: runesL (bs.drop (pos + (decL (bs.drop pos)).2)) := by
  rw [runesL_step _ (by rw [List.length_drop]; omega), List.drop_drop]
theorem pos_at {bs : List Int} {pos : Nat} (h : pos < bs.length) : 1 ≤ (decL (bs.drop pos)).2 ∧ pos + (decL (bs.drop pos)).2 ≤ bs.length := by
  have h1 := decL_pos (bs.drop pos)
  have h2 := decL_le (bs.drop pos) (by rw [List.length_drop]; omega)
  rw [List.length_drop] at h2
  omega
theorem SpAt.letter {w wr w2 w3 : World} {bs : List Int} {pos n Bw : Nat} {r : Int} {vs vw vw' : Value} {ws : List (List Int)} {wd : List Int} {o : Obj} (h : SpAt w wr bs pos vs vw ws wd Bw) (hp : pos < bs.length) (hn : pos + n ≤ bs.length) (hl : letterZ r = true)
    (hr : runesL (bs.drop pos) = r :: runesL (bs.drop (pos + n))) (hz : (encodeRuneZ (foldZ r)).length = n) (hb : Below wr.heap.size wr w2) (ho : OwnB w3 Bw vw' (wd ++ encodeRuneZ (foldZ r))) (hg : (w2.alloc o).grownBy w3 vw.ownBlock) :
    SpAt w w3 bs (pos + n) vs vw' ws (wd ++ encodeRuneZ (foldZ r)) Bw := by
  have h2 : w2.heap.size ≤ w3.heap.size := by have := hg.size; simp at this; omega
  have far : ∀ g, g < Bw → g < wr.heap.size → w3.heap[g]? = wr.heap[g]? := fun g h1 h3 => by
    have hs := hb.size
    rw [hg.block g (by simp; omega) (fun e => by have := (h.rowW.block g e.symm).1; omega), Below.heap_alloc w2 o g (by omega)]
    exact hb.block g h3
  refine ⟨fun _ => ?_, fun e => by omega, h.few, by rw [List.length_append, hz]; have := h.short; omega, h.rowS.keep fun g hg2 => far g (h.apart g hg2) (h.rowS.block g hg2).2, ho, h.apart, ⟨h.base.1, by have := h.base.2; have := hb.size; omega⟩, ?_⟩
  · rw [h.todo (by omega), hr, wordsR, if_pos hl]
  · refine ⟨hg.os.trans (hb.os.trans h.below.os), hg.tape.trans (hb.tape.trans h.below.tape), hg.output.trans (hb.output.trans h.below.output), by have := h.below.size; have := hb.size; omega, fun g hg2 => ?_⟩
    rw [far g (by have := h.base.1; omega) (by have := h.below.size; omega)]
    exact h.below.block g hg2
theorem SpAt.flushed {w wr w3 : World} {bs : List Int} {pos n Bw : Nat} {r : Int} {vs vw vs' : Value} {ws : List (List Int)} {wd : List Int} (h : SpAt w wr bs pos vs vw ws wd Bw) (hp : pos < bs.length) (hn : pos + n ≤ bs.length) (hl : letterZ r = false)
    (hr : runesL (bs.drop pos) = r :: runesL (bs.drop (pos + n))) (ho : OwnS w3 w.heap.size vs' (endW ws wd)) (hb : Below w.heap.size w w3) : SpAt w w3 bs (pos + n) vs' (.slice none 0 0) (endW ws wd) [] w3.heap.size := by
  have e := endW_take ws wd (wordsR (runesL (bs.drop (pos + n))) []) h.few
  refine ⟨fun _ => ?_, fun e => by omega, e.2, by simp, ho, OwnB.nil _ _, fun g hg => (ho.block g hg).2, ⟨hb.size, Nat.le_refl _⟩, hb⟩
  rw [h.todo (by omega), hr, wordsR, if_neg (by rw [hl]; decide), e.1]
theorem SpAt.ended {w wr w3 : World} {bs : List Int} {pos Bw : Nat} {vs vw vs' : Value} {ws : List (List Int)} {wd : List Int} (h : SpAt w wr bs pos vs vw ws wd Bw) (hp : pos = bs.length)
    (ho : OwnS w3 w.heap.size vs' (endW ws wd)) (hb : Below w.heap.size w w3) : SpAt w w3 bs (pos + 1) vs' (.slice none 0 0) (endW ws wd) [] w3.heap.size := by
  have e := endW_take ws wd [] h.few
  refine ⟨fun h => by omega, fun _ => ?_, e.2, by simp, ho, OwnB.nil _ _, fun g hg => (ho.block g hg).2, ⟨hb.size, Nat.le_refl _⟩, hb⟩
  have h2 := h.todo (by omega)
  rw [show bs.drop pos = [] from List.drop_of_length_le (by omega), runesL_nil, wordsR] at h2
  rw [List.append_nil, List.append_nil] at e
  rw [h2, e.1, List.take_of_length_le e.2]
set_option maxHeartbeats 8000000 in
theorem rsplit_any (s : ByteArray) (hs : s.size ≤ 140737488351232) (w : World) (hT : TabsW w) :
    Calls Tryd.prog 6 #[.string s] w fun e w' => ∃ v, e = .returned v ∧ OwnS w' w.heap.size v (splitL (bsI s)) ∧ Below w.heap.size w w' := by
  obtain ⟨i0, hi0, hz0, hz1, hz2⟩ := info_parts info_str
  have I0 := Lib.hid (And.intro hi0 (And.intro hz0 (And.intro hz1 (And.intro hz2 (bsI_len s)))))
  have HT := Lib.hid (And.intro hT (SpAt.start w (bsI s)))
  clear hi0 hz0 hz1 hz2 hT
  go_enter Tryd.func6, Tryd.ntmps6
  go_wp2_with fail
  go_loopw [3, 4, 5] (fun vs vw i wr => ∃ (pos : Nat) (ws : List (List Int)) (wd : List Int) (Bw : Nat), pos ≤ s.size + 1 ∧ i = .int .i64 (pos : Int) ∧ Hid (SpAt w wr (bsI s) pos vs vw ws wd Bw)) (fun _ _ i _ => s.size + 1 - (intOf i).toNat)
  case atStart => exact ⟨0, [], [], _, by omega, rfl, HT.out.2⟩
  case round =>
    obtain ⟨pos, ws, wd, Bw, hp, rfl, HK⟩ := hrel
    by_cases hle : pos ≤ s.size
    · by_cases hlt : pos < s.size
      · have HD := Lib.hid (dec_any s pos hlt wr (HT.out.1.then_ HK.below))
        have hdp := pos_at (bs := bsI s) (pos := pos) (by rw [I0.out.2.2.2.2]; exact hlt)
        rw [I0.out.2.2.2.2] at hdp
        have HR := Lib.hid (runes_at (bs := bsI s) (pos := pos) (by rw [I0.out.2.2.2.2]; exact hlt))
        have hrl := decL_rune ((bsI s).drop pos)
        have HZ : Hid (letterZ ((decL ((bsI s).drop pos)).1 : Int) = true → (encodeRuneZ (foldZ ((decL ((bsI s).drop pos)).1 : Int))).length = (decL ((bsI s).drop pos)).2) := Lib.hid dec_size
        generalize (decL ((bsI s).drop pos)).1 = r at *
        generalize (decL ((bsI s).drop pos)).2 = n at *
        obtain ⟨hn1, hn2⟩ := hdp
        go_wp2_with fail
        refine HD.out.mono ?_
        rintro e w2 ⟨rfl, b2⟩
        have hB2 := Lib.hid b2
        clear b2
        cases hl : letterZ (r : Int)
        · have HL := Lib.hid hl
          have HLT := Lib.hid (rletter_any (r : Int) (by omega) (by omega) w2)
          rw [hl] at HLT
          clear hl
          go_wp2_with fail
          refine HLT.out.mono ?_
          rintro e w3 ⟨rfl, rfl⟩
          obtain ⟨aw, cw, ew, iw, h0w, -⟩ := HK.rowW.shape
          obtain ⟨as_, cs, es⟩ : ∃ as_ cs, u3 = .slice as_ ws.length cs := by
            rcases HK.rowS.2 with ⟨h1, h2⟩ | ⟨g, cap, cur, h1, -⟩
            · exact ⟨none, 0, by rw [h1, h2]⟩
            · exact ⟨_, _, h1⟩
          subst ew es
          obtain ⟨nw, hnw⟩ : ∃ nw, wd.length = nw := ⟨_, rfl⟩
          obtain ⟨ns, hns⟩ : ∃ ns, ws.length = ns := ⟨_, rfl⟩
          rw [hnw, hns]
          have few := HK.few
          have short := HK.short
          rw [hns] at few
          rw [hnw] at short
          have s1 := run_str w2 aw nw cw wd hnw ((HK.rowW.then_ hB2.out).rowIn) (fun h => (h0w h).2)
          have HW := Lib.hid (And.intro hnw (And.intro hns iw))
          clear hnw hns iw h0w
          by_cases hfit : (0 < nw ∧ nw ≤ 40) ∧ ns < 200
          · have HEW : Hid (endW ws wd = ws ++ [wd]) := Lib.hid (by rw [endW, HW.out.1, HW.out.2.1, if_pos hfit])
            obtain ⟨⟨f1, f2⟩, f3⟩ := hfit
            have orow : Hid (OwnS w2 w.heap.size (.slice as_ ws.length cs) ws) := Lib.hid (HK.rowS.then_ hB2.out)
            rw [HW.out.2.1] at orow
            have hzz : w.heap.size ≤ w2.heap.size := (below_then HK.below (hB2.out.mono (Nat.le_refl _))).size
            go_wp2_with (at_builtin; refine wpList_append_own _ rfl (.tmp 44) (.tmp 47) 23 rfl w.heap.size 9 i0 _ 1 16 Tryd.underlying23 I0.out.1 I0.out.2.1 I0.out.2.2.1 I0.out.2.2.2.1 rfl (by decide) _ _ _ rfl (World.ownsRow.alloc orow.out _) ⟨w2.heap.size, 0, none⟩ 1 1 [.string (strOfNums wd)] rfl rfl ((World.ownsRow_lit (size := 1) (e := 9) w2 #[.string (strOfNums wd)] 1 (Nat.le_refl _) (by decide) rfl).cells rfl) (by intro u hu; simp at hu; subst hu; rfl) (by rw [HW.out.2.1]; unfold maxLen; omega) (by rw [HW.out.2.1]; omega) (Nat.le_trans hzz (below1 _ _).size) ?_; intro v' w9 own1 grow1 _; have O1 := Lib.hid own1; have G1 := Lib.hid grow1; clear own1 grow1)
            go_roundw
            case rel =>
              have ho : OwnS w9 w.heap.size v' (endW ws wd) := by
                rw [HEW.out]
                unfold OwnS
                rw [List.length_append, stV_append]
                exact O1.out
              have hb : Below w.heap.size w w9 := ((below_then HK.below (hB2.out.mono (Nat.le_refl _))).alloc hzz _).grown G1.out (Nat.le_trans hzz (below1 _ _).size) (fun g hg => (World.ownsRow.lt orow.out g hg).1)
              exact ⟨_, _, _, _, by omega, by go_num, HK.flushed (by rw [I0.out.2.2.2.2]; exact hlt) (by rw [I0.out.2.2.2.2]; exact hn2) HL.out HR.out ho hb⟩
            case measure => simp [intOf]; omega
          · have HEW : Hid (endW ws wd = ws) := Lib.hid (by rw [endW, HW.out.1, HW.out.2.1, if_neg hfit])
            have orow : Hid (OwnS w2 w.heap.size (.slice as_ ws.length cs) ws) := Lib.hid (HK.rowS.then_ hB2.out)
            rw [HW.out.2.1] at orow
            have hns : ¬ 0 < nw ∨ (0 < nw ∧ ¬ nw ≤ 40) ∨ (0 < nw ∧ nw ≤ 40 ∧ ¬ ns < 200) := by omega
            clear hfit
            rcases hns with q | ⟨q, q2⟩ | ⟨q, q2, q3⟩
            all_goals
              go_wp2_with fail
              go_roundw
              case rel =>
                have ho : OwnS w2 w.heap.size (.slice as_ ns cs) (endW ws wd) := by rw [HEW.out]; exact orow.out
                have hb : Below w.heap.size w w2 := (below_then HK.below (hB2.out.mono (Nat.le_refl _)))
                exact ⟨_, _, _, _, by omega, by go_num, HK.flushed (by rw [I0.out.2.2.2.2]; exact hlt) (by rw [I0.out.2.2.2.2]; exact hn2) HL.out HR.out ho hb⟩
              case measure => simp [intOf]; omega
        · have HL := Lib.hid hl
          have HLT := Lib.hid (rletter_any (r : Int) (by omega) (by omega) w2)
          rw [hl] at HLT
          have HFO := Lib.hid (rfold_any (r : Int) (by omega) (by omega) w2)
          have hfr := letter_rng (fold_letter hl).1
          clear hl
          go_wp2_with fail
          refine HLT.out.mono ?_
          rintro e w3 ⟨rfl, rfl⟩
          go_wp2_with fail
          refine HFO.out.mono ?_
          rintro e w3 ⟨rfl, rfl⟩
          have short := HK.short
          go_wp2_with fail
          refine (apRune_any Bw u4 wd (foldZ r) (by omega) (by omega) w2 (HK.rowW.then_ hB2.out) (by omega) (Nat.le_trans HK.base.2 hB2.out.size)).mono ?_
          rintro e w4 ⟨v4, rfl, ho4, o4, hg4⟩
          have H4 := Lib.hid (HK.letter (by rw [I0.out.2.2.2.2]; exact hlt) (by rw [I0.out.2.2.2.2]; exact hn2) HL.out HR.out (HZ.out HL.out) hB2.out ho4 hg4)
          clear ho4 hg4
          go_wp2_with fail
          go_roundw
          case rel => exact ⟨pos + n, _, _, _, by omega, by go_num, H4.out⟩
          case measure => simp [intOf]; omega
      · have hps : pos = s.size := by omega
        have HLT := Lib.hid (rletter_any 0 (by omega) (by omega) wr)
        rw [show letterZ 0 = false from by decide] at HLT
        have HPS := Lib.hid hps
        clear hps
        go_wp2_with fail
        refine HLT.out.mono ?_
        rintro e w3 ⟨rfl, rfl⟩
        obtain ⟨aw, cw, ew, iw, h0w, -⟩ := HK.rowW.shape
        obtain ⟨as_, cs, es⟩ : ∃ as_ cs, u3 = .slice as_ ws.length cs := by
          rcases HK.rowS.2 with ⟨h1, h2⟩ | ⟨g, cap, cur, h1, -⟩
          · exact ⟨none, 0, by rw [h1, h2]⟩
          · exact ⟨_, _, h1⟩
        subst ew es
        obtain ⟨nw, hnw⟩ : ∃ nw, wd.length = nw := ⟨_, rfl⟩
        obtain ⟨ns, hns⟩ : ∃ ns, ws.length = ns := ⟨_, rfl⟩
        rw [hnw, hns]
        have few := HK.few
        have short := HK.short
        rw [hns] at few
        rw [hnw] at short
        have s1 := run_str wr aw nw cw wd hnw (HK.rowW.rowIn) (fun h => (h0w h).2)
        have HW := Lib.hid (And.intro hnw (And.intro hns iw))
        clear hnw hns iw h0w
        by_cases hfit : (0 < nw ∧ nw ≤ 40) ∧ ns < 200
        · have HEW : Hid (endW ws wd = ws ++ [wd]) := Lib.hid (by rw [endW, HW.out.1, HW.out.2.1, if_pos hfit])
          obtain ⟨⟨f1, f2⟩, f3⟩ := hfit
          have orow : Hid (OwnS wr w.heap.size (.slice as_ ws.length cs) ws) := Lib.hid HK.rowS
          rw [HW.out.2.1] at orow
          have hzz : w.heap.size ≤ wr.heap.size := HK.below.size
          go_wp2_with (at_builtin; refine wpList_append_own _ rfl (.tmp 44) (.tmp 47) 23 rfl w.heap.size 9 i0 _ 1 16 Tryd.underlying23 I0.out.1 I0.out.2.1 I0.out.2.2.1 I0.out.2.2.2.1 rfl (by decide) _ _ _ rfl (World.ownsRow.alloc orow.out _) ⟨wr.heap.size, 0, none⟩ 1 1 [.string (strOfNums wd)] rfl rfl ((World.ownsRow_lit (size := 1) (e := 9) wr #[.string (strOfNums wd)] 1 (Nat.le_refl _) (by decide) rfl).cells rfl) (by intro u hu; simp at hu; subst hu; rfl) (by rw [HW.out.2.1]; unfold maxLen; omega) (by rw [HW.out.2.1]; omega) (Nat.le_trans hzz (below1 _ _).size) ?_; intro v' w9 own1 grow1 _; have O1 := Lib.hid own1; have G1 := Lib.hid grow1; clear own1 grow1)
          go_roundw
          case rel =>
            have ho : OwnS w9 w.heap.size v' (endW ws wd) := by
              rw [HEW.out]
              unfold OwnS
              rw [List.length_append, stV_append]
              exact O1.out
            have hb : Below w.heap.size w w9 := (HK.below.alloc hzz _).grown G1.out (Nat.le_trans hzz (below1 _ _).size) (fun g hg => (World.ownsRow.lt orow.out g hg).1)
            exact ⟨_, _, _, _, by omega, by go_num, HK.ended (by rw [I0.out.2.2.2.2]; exact HPS.out) ho hb⟩
          case measure => simp [intOf]; omega
        · have HEW : Hid (endW ws wd = ws) := Lib.hid (by rw [endW, HW.out.1, HW.out.2.1, if_neg hfit])
          have orow : Hid (OwnS wr w.heap.size (.slice as_ ws.length cs) ws) := Lib.hid HK.rowS
          rw [HW.out.2.1] at orow
          have hns : ¬ 0 < nw ∨ (0 < nw ∧ ¬ nw ≤ 40) ∨ (0 < nw ∧ nw ≤ 40 ∧ ¬ ns < 200) := by omega
          clear hfit
          rcases hns with q | ⟨q, q2⟩ | ⟨q, q2, q3⟩
          all_goals
            go_wp2_with fail
            go_roundw
            case rel =>
              have ho : OwnS wr w.heap.size (.slice as_ ns cs) (endW ws wd) := by rw [HEW.out]; exact orow.out
              have hb : Below w.heap.size w wr := HK.below
              exact ⟨_, _, _, _, by omega, by go_num, HK.ended (by rw [I0.out.2.2.2.2]; exact HPS.out) ho hb⟩
            case measure => simp [intOf]; omega
    · have HV := Lib.hid (HK.done (by rw [I0.out.2.2.2.2]; omega))
      go_wp2_with fail
      go_ret
      exact ⟨_, rfl, by rw [HV.out]; exact HK.rowS, HK.below⟩
end Go.Proofs.YtgcbcmhdlgklgaaDoor
