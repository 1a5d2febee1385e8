/- The program's Scan. No statement is proved here. -/
import Derived.Test.YtophhnolnlbecaaDoorQ27
import Derived.Test.YtophhnolnlbecaaDoorJPr5
namespace Go.Proofs.YtophhnolnlbecaaDoor
open Go.RowKit
set_option maxRecDepth 100000

theorem stands_bad {e num : Int} (he : ¬ jOk e) (b : List Int) : standsN b e num = 0 := by
  unfold standsN
  split
  · rfl
  · split
    · rfl
    · rw [if_neg]
      intro h
      have : frE e num ((b.drop 20).take (readP b 0 4).toNat).length = 1 := by unfold frE; rw [if_pos (.inl he)]
      unfold frL at h
      rw [this, if_neg (by decide)] at h
      have := congrArg List.length h
      simp at this
      omega
theorem scanN_is (S : List Int) (e : Int) : scanN S e = scanF S e (S.length + 1) 0 0 := by
  unfold scanN
  split
  · rfl
  · rename_i he
    rw [scanF]
    split
    · rfl
    · rw [if_pos (stands_bad he _)]
theorem scanF_out {S : List Int} {e : Int} {f k en : Nat} (h : standsN (S.drop (begins en)) e k = 0) : scanF S e (f + 1) k en = ([], en) := by
  rw [scanF]
  split
  · rfl
  · first
      | rfl
      | rw [if_pos h]
set_option maxHeartbeats 8000000 in
theorem pscan_any (e : Int) (la : Option Addr) (n c : Nat) (l : List Int) (w : World) (ht : Tab16 w) (he : okInt e) (hin : InB w la l) (hB : isB l) (hn : l.length = n) (hc : n ≤ c) (hl : n ≤ 140737488351232) (hnil : la = none → c = 0) :
    Calls Tryd.prog 15 #[.slice la n c, .int .i64 e] w (ScP l e w) := by
  have HST := Lib.hid (pstream_any e la n c l w he hin hB hn hc hl hnil)
  have hSl := stream_len e (n / 512) l
  have HSB := Lib.hid (stream_byte (e := e) (n / 512) l hB)
  have HSN := Lib.hid (show scanN (streamN e (l.length / 512) l) e = scanF (streamN e (n / 512) l) e ((streamN e (n / 512) l).length + 1) 0 0 by rw [hn, scanN_is])
  obtain ⟨R, hR⟩ : ∃ R, scanN (streamN e (l.length / 512) l) e = R := ⟨_, rfl⟩
  have HR := Lib.hid hR
  rw [hR] at HSN
  rw [hn] at hSl HST
  have HTb := Lib.hid ht
  clear hR hin hB hc ht hnil
  generalize streamN e (n / 512) l = S at *
  go_enter Tryd.func15, Tryd.ntmps15
  go_wp2_with fail
  refine HST.out.mono ?_
  rintro en w1 ⟨v1, rfl, o1, b1⟩
  obtain ⟨ax, cx, rfl, i1, n1, le1, m1⟩ := o1.shape
  have H1 := Lib.hid (And.intro i1 (And.intro n1 b1))
  obtain ⟨L, hL⟩ : ∃ L, L = S.length := ⟨_, rfl⟩
  rw [← hL] at le1 hSl HSN ⊢
  have HL := Lib.hid hL
  have HT1 := Lib.hid (tab16_onJ HTb.out b1)
  clear i1 n1 b1 o1 hL HST
  have hL2 : L ≤ 140737488351232 := by omega
  clear hSl hl hn
  go_wp2_with fail
  go_loopw [7, 8] (fun v i wr => ∃ (rs : List (Value × List Int)) (f : Nat) (en : Nat), i = .int .i64 (en : Int) ∧ en ≤ L ∧ rs.length ≤ 2147483648 ∧ Hid (OwnRO wr w1.heap.size v rs ∧ Below w1.heap.size w1 wr ∧ R = (rs.map Prod.snd ++ (scanF S e f rs.length en).1, (scanF S e f rs.length en).2) ∧ L + 1 ≤ f + en)) (fun _ i _ => L + 1 - (intOf i).toNat)
  case atStart => exact ⟨[], L + 1, 0, rfl, Nat.zero_le _, by simp, Lib.hid ⟨OwnRR.nil _ _ |>.o, Below.refl _ _, by rw [HSN.out]; simp, by omega⟩⟩
  case round =>
    obtain ⟨rs, f, en, rfl, hen, hrs, HK⟩ := hrel
    obtain ⟨av, cv, rfl, nv, lev, mv⟩ := HK.out.1.form
    have HB := Lib.hid (below_then H1.out.2.2 HK.out.2.1)
    obtain ⟨f', hf'⟩ : ∃ f', f = f' + 1 := ⟨f - 1, by have := HK.out.2.2.2; omega⟩
    have hstep := HK.out.2.2.1
    rw [hf'] at hstep
    have HF' := Lib.hid hf'
    have hbl := begins_le en
    have HBG := Lib.hid (pbegin_any en (by omega) wr)
    have HOUT := Lib.hid (fun h => scanF_out (S := S) (e := e) (f := f') (k := rs.length) (en := en) h)
    have HIN' := Lib.hid (show standsN (S.drop (begins en)) e rs.length ≠ 0 → begins en ≤ L ∧ scanF S e (f' + 1) rs.length en = ((S.drop (begins en + 20)).take (standsN (S.drop (begins en)) e rs.length - 20) :: (scanF S e f' (rs.length + 1) (begins en + standsN (S.drop (begins en)) e rs.length)).1, (scanF S e f' (rs.length + 1) (begins en + standsN (S.drop (begins en)) e rs.length)).2) from fun h => by
      have h2 := stands_some h
      rw [List.length_drop] at h2
      refine ⟨by rw [HL.out]; omega, ?_⟩
      rw [scanF, if_neg (by omega), if_neg h])
    obtain ⟨p, hp⟩ : ∃ p, p = begins en := ⟨_, rfl⟩
    rw [← hp] at HBG HOUT HIN' hbl
    have HSTEP := Lib.hid hstep
    clear hp hf' hstep
    have HRec := Lib.hid (precord_any e (rs.length : Int) p ax L cx S wr (tab16_onJ HT1.out HK.out.2.1) he (by unfold okInt; omega) (by omega) (H1.out.1.then_ HK.out.2.1) HSB.out HL.out.symm le1 hL2)
    go_wp2_with fail
    refine HBG.out.mono ?_
    rintro en' w' ⟨rfl, rfl⟩
    go_wp2_with fail
    refine HRec.out.mono ?_
    rintro en' w2 ⟨hcase, b2⟩
    have HB2 := Lib.hid b2
    rcases hcase with ⟨h0, rfl⟩ | ⟨h0, v2, rfl, ho2⟩
    · have HX := Lib.hid (show ScP l e w (.returned (.tuple #[.slice av rs.length cv, .int .i64 (en : Int)])) w2 from ⟨_, rs, by rw [HR.out, HSTEP.out, HOUT.out h0], by rw [HR.out, HSTEP.out, HOUT.out h0]; simp, (HK.out.1.then_ HB2.out).base H1.out.2.2.size, below_then HB.out HB2.out⟩)
      clear h0 b2
      go_wp2_with fail
      go_ret2
      exact HX.out
    · obtain ⟨hpL, hst⟩ := HIN'.out h0
      have g := stands_some (l := S.drop p) (e := e) (num := (rs.length : Int)) h0
      rw [List.length_drop, ← HL.out] at g
      obtain ⟨m, hm⟩ : ∃ m, m = standsN (S.drop p) e (rs.length : Int) := ⟨_, rfl⟩
      rw [← hm] at hst ho2 g
      obtain ⟨g1, g2, g3⟩ := g
      obtain ⟨X, hX⟩ : ∃ X, X = (S.drop (p + 20)).take (m - 20) := ⟨_, rfl⟩
      have HLn : Hid (X.length = m - 20) := Lib.hid (by rw [hX, List.length_take, List.length_drop, ← HL.out]; omega)
      rw [← hX] at ho2 hst
      rw [hst] at HSTEP
      obtain ⟨a5, c5, rfl, -⟩ := ho2.shape
      have HK2 := Lib.hid (HK.out.1.then_ b2)
      have HW2 := Lib.hid (below_then HK.out.2.1 b2)
      have RS := Lib.hid (ro_snoc HK.out.1 HB2.out ho2 HK.out.2.1.size)
      rw [HLn.out] at RS ⊢
      clear hm hX b2 h0 hst ho2
      go_wp2_with (show wpList _ _ _ (⟨some 33, _, _, _, _, _⟩ :: _) _ _; refine apRO rfl (.tmp 30) (.tmp 32) rfl w1.heap.size _ rs rfl RS.out.1 _ RS.out.2.1 RS.out.2.2.1 RS.out.2.2.2.1 (some ⟨w2.heap.size, 0, none⟩) 1 1 rfl rfl (fun e => by cases e) RS.out.2.2.2.2 (by omega) (Nat.le_trans HW2.out.size (below1 w2 _).size) ?_; intro v7 w7 h7)
      go_roundw
      case rel => exact ⟨rs ++ [(.slice a5 (m - 20) c5, X)], f', p + m, by go_num, by omega, by simp; omega, Lib.hid ⟨h7.out.1, (below_then HW2.out (below1 w2 _)).grown h7.out.2.1 (below_then HW2.out (below1 w2 _)).size (fun g hg => (HK2.out.block g hg).1), by rw [HSTEP.out, List.map_append, List.length_append]; simp, by have := HK.out.2.2.2; have := HF'.out; omega⟩⟩
      case measure => simp [intOf]; omega
end Go.Proofs.YtophhnolnlbecaaDoor
