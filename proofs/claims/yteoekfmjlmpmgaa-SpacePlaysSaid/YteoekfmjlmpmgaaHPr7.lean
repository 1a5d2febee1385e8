/- The program's space: Take, Drop, Back, Used. No statement is proved here. -/
import Derived.Test.YteoekfmjlmpmgaaHPr6
namespace Go.Proofs.Yteoekfmjlmpmgaa
open Go.RowKit
set_option maxRecDepth 100000

theorem St.sp {B : Nat} {w w' : World} {a g c : Nat} {vf vw : Value} {F : List Nat} {L H Wt : List Int} {r : Value} (hs : St w w' F (blF a g vf vw)) (h1 : PspM w' B a g c vf vw L H Wt) (h2 : heapP H) (h3 : H.Perm (areL L 0)) (h4 : Wt.Perm (areL L 2)) (h5 : three L) (h6 : 1 ≤ L.length) (h7 : L.length ≤ 65536) :
    SpTo (PSp B) w F a L r (.returned r) w' := ⟨rfl, hs.only, _, ⟨g, c, vf, vw, H, Wt, rfl, h1, h2, h3, h4, h5, h6, h7⟩, hs.more⟩
theorem perm_len {H L : List Int} {x : Int} (h : H.Perm (areL L x)) : H.length ≤ L.length := by rw [h.length_eq, areL_len]; exact many_le x L
/-- The pages that stand so, when one turns. -/
theorem are_turn {L H : List Int} {k : Nat} {x y : Int} (h : L[k]? = some y) (hy : y ≠ x) (hp : H.Perm ((k : Int) :: areL L x)) : H.Perm (areL (L.set k x) x) := by
  have := are_set L 0 k x y h hy
  rw [Nat.zero_add] at this
  exact hp.trans this.symm
theorem are_same {L : List Int} {k : Nat} {x y z : Int} (h : L[k]? = some y) (hy : y ≠ x) (hz : z ≠ x) : areL (L.set k z) x = areL L x := are_other L 0 k x y z h hy hz
theorem are_less {L H : List Int} {k : Nat} {x y : Int} (h : L[k]? = some x) (hy : y ≠ x) (hp : ((k : Int) :: H).Perm (areL L x)) : H.Perm (areL (L.set k y) x) := by
  have := are_unset L 0 k x y h hy
  rw [Nat.zero_add] at this
  exact (hp.trans this).cons_inv
set_option maxHeartbeats 4000000 in
theorem take_any (B : Nat) (F : List Nat) (a : Nat) (L : List Int) (w : World) (h : PSp B w F a L) :
    Calls Try.prog 18 #[.pointer (some ⟨a, 0, none⟩)] w (SpTo (PSp B) w F a (takeL L) (.tuple #[.int .i64 (takeN L), .int .i64 (takeE L)])) := by
  have HS := Lib.hid h
  obtain ⟨g, c, vf, vw, H, Wt, rfl, h1, h2, h3, h4, h5, h6, h7⟩ := h
  have HC := Lib.hid (pop_any B a _ vf vw H w h1.hp h2 (by have := perm_len h3; omega))
  have H1 := Lib.hid (And.intro h1 (And.intro h2 (And.intro h3 (And.intro h4 (And.intro h5 (And.intro h6 h7))))))
  clear h1 h2 h3 h4 h5
  generalize hm : L.length = m at *
  go_enter Try.func18, Try.ntmps18
  go_wp2_with fail
  refine HC.out.mono ?_
  rintro e w1 (⟨k1, rfl, rfl⟩ | ⟨k1, rfl, vf', M, k2, k3, k4, k5, k6⟩)
  · clear HC
    have hz : zerosN L = 0 := by
      have := H1.out.2.2.1.length_eq
      rw [k1, areL_len, zeros_many] at this
      simpa using this.symm
    have hf := take_none (zeros_none hz)
    clear hz k1
    go_wp2_with fail
    go_ret2
    rw [hf.1, hf.2.1, hf.2.2]
    exact ⟨rfl, Only.refl _ _, _, HS.out, fun b hb => .inl hb⟩
  · have hmem : gI H 0 ∈ areL L 0 := H1.out.2.2.1.mem_iff.1 ((popL_perm k1).mem_iff.2 (List.mem_cons_self ..))
    obtain ⟨q1, q2, q3⟩ := are_at hmem
    obtain ⟨k, hk⟩ : ∃ k : Nat, gI H 0 = (k : Int) := ⟨(gI H 0).toNat, by omega⟩
    rw [hk, Int.toNat_natCast] at q3
    have hkm : k < m := by omega
    have hf := take_some (find_least q3 (fun x hx => by
      rw [← hk]
      exact heap_first H1.out.2.1 x (H1.out.2.2.1.mem_iff.2 hx)))
    have hM : M.Perm (areL (L.set k 1) 0) := are_less q3 (by decide) (((k3.cons _).trans (by rw [← hk]; exact (popL_perm k1).symm)).trans H1.out.2.2.1)
    have hW : Wt.Perm (areL (L.set k 1) 2) := by rw [are_same q3 (by decide) (by decide)]; exact H1.out.2.2.2.1
    have hp := H1.out.1.heap (by rw [hm]; exact k4) k6 (.inl k5)
    have c0 : w1.cell? ⟨a, 0, none⟩ = some (.slice (some ⟨g, 0, none⟩) L.length c) := row_cells hp.1.hp.box 0
    rw [hm] at c0
    obtain ⟨ck, fk⟩ := hp.1.st.at_ q3
    have hz := hp.1.setZ k 1
    have HE := Lib.hid (St.sp (r := .tuple #[.int .i64 (k : Int), .int .i64 0]) (hp.2.trans hz.2) hz.1 k2 hM hW (three_set H1.out.2.2.2.2.1 k (.inr (.inl rfl))) (by rw [List.length_set]; omega) (by rw [List.length_set]; omega))
    have HF := Lib.hid hf
    clear hmem q1 q2 q3 hf hM hW hp hz k1 k2 k3 k4 k5 k6 HC
    rw [hk]
    clear hk
    go_wp2_with fail
    go_ret2
    rw [HF.out.1, HF.out.2.1, HF.out.2.2]
    exact HE.out
theorem setE_no {L : List Int} {n t : Int} (h : usedB L n = false) : setE L n = 1 ∧ setL L n t = L := by unfold setE setL; rw [h]; exact ⟨rfl, rfl⟩
theorem setE_yes {L : List Int} {n t : Int} (h : usedB L n = true) : setE L n = 0 ∧ setL L n t = L.set n.toNat t := by unfold setE setL; rw [h]; exact ⟨rfl, rfl⟩
theorem used_at {L : List Int} {n : Int} (h : usedB L n = true) : ∃ k : Nat, n = k ∧ L[k]? = some 1 := by
  unfold usedB at h
  rw [Bool.and_eq_true] at h
  have h0 : 0 ≤ n := of_decide_eq_true h.1
  exact ⟨n.toNat, by omega, by simpa using h.2⟩
set_option maxHeartbeats 4000000 in
theorem back_any (B : Nat) (F : List Nat) (a : Nat) (L : List Int) (n : Int) (hn : okInt n) (w : World) (h : PSp B w F a L) :
    Calls Try.prog 20 #[.pointer (some ⟨a, 0, none⟩), .int .i64 n] w (SpTo (PSp B) w F a (setL L n 0) (.int .i64 (setE L n))) := by
  have HS := Lib.hid h
  obtain ⟨g, c, vf, vw, H, Wt, rfl, h1, h2, h3, h4, h5, h6, h7⟩ := h
  have HC := Lib.hid (is_any B a g c vf vw L H Wt n 1 hn w h1 h7)
  have H1 := Lib.hid (And.intro h1 (And.intro h2 (And.intro h3 (And.intro h4 (And.intro h5 (And.intro h6 h7))))))
  clear h1 h2 h3 h4 h5 h6 h7
  cases hu : usedB L n with
  | false =>
    have hb : stB L n 1 = false := hu
    rw [hb] at HC
    have hf := setE_no (t := 0) hu
    rw [hf.1, hf.2]
    clear hu hb hf
    go_enter Try.func20, Try.ntmps20
    go_wp2_with fail
    refine HC.out.mono ?_
    rintro e w1 ⟨rfl, rfl⟩
    clear HC
    go_wp2_with fail
    go_ret
    exact ⟨rfl, Only.refl _ _, _, HS.out, fun b hb => .inl hb⟩
  | true =>
    have hb : stB L n 1 = true := hu
    rw [hb] at HC
    have hf := setE_yes (t := 0) hu
    obtain ⟨k, rfl, hk⟩ := used_at hu
    rw [Int.toNat_natCast] at hf
    have HK := Lib.hid hk
    have HF := Lib.hid hf
    clear hu hb hf hn hk
    go_enter Try.func20, Try.ntmps20
    go_wp2_with fail
    refine HC.out.mono ?_
    rintro e w1 ⟨rfl, rfl⟩
    clear HC
    go_wp2_with fail
    refine (release_any B a g c vf vw L H Wt k w H1.out.1 (lt_of_get HK.out) H1.out.2.2.2.2.2.2 H1.out.2.1 (Nat.le_trans (perm_len H1.out.2.2.1) H1.out.2.2.2.2.2.2)).mono ?_
    rintro e w2 ⟨rfl, vf', H', q1, q2, q3, q4⟩
    have HE := Lib.hid (St.sp (r := .int .i64 0) q4 q3 q1 (are_turn HK.out (by decide) (q2.trans (H1.out.2.2.1.cons _))) (by rw [are_same HK.out (by decide) (by decide)]; exact H1.out.2.2.2.1) (three_set H1.out.2.2.2.2.1 k (.inl rfl)) (by rw [List.length_set]; exact H1.out.2.2.2.2.2.1) (by rw [List.length_set]; exact H1.out.2.2.2.2.2.2))
    clear q1 q2 q3 q4
    go_wp2_with fail
    go_ret
    rw [HF.out.1, HF.out.2]
    exact HE.out
set_option maxHeartbeats 4000000 in
theorem drop_any (B : Nat) (F : List Nat) (a : Nat) (L : List Int) (n : Int) (hn : okInt n) (w : World) (h : PSp B w F a L) :
    Calls Try.prog 19 #[.pointer (some ⟨a, 0, none⟩), .int .i64 n] w (SpTo (PSp B) w F a (setL L n 2) (.int .i64 (setE L n))) := by
  have HS := Lib.hid h
  obtain ⟨g, c, vf, vw, H, Wt, rfl, h1, h2, h3, h4, h5, h6, h7⟩ := h
  have HC := Lib.hid (is_any B a g c vf vw L H Wt n 1 hn w h1 h7)
  have H1 := Lib.hid (And.intro h1 (And.intro h2 (And.intro h3 (And.intro h4 (And.intro h5 (And.intro h6 h7))))))
  cases hu : usedB L n with
  | false =>
    clear h1 h2 h3 h4 h5 h6 h7
    have hb : stB L n 1 = false := hu
    rw [hb] at HC
    have hf := setE_no (t := 2) hu
    rw [hf.1, hf.2]
    clear hu hb hf
    go_enter Try.func19, Try.ntmps19
    go_wp2_with fail
    refine HC.out.mono ?_
    rintro e w1 ⟨rfl, rfl⟩
    clear HC
    go_wp2_with fail
    go_ret
    exact ⟨rfl, Only.refl _ _, _, HS.out, fun b hb => .inl hb⟩
  | true =>
    have hb : stB L n 1 = true := hu
    rw [hb] at HC
    have hf := setE_yes (t := 2) hu
    obtain ⟨k, rfl, hk⟩ := used_at hu
    rw [Int.toNat_natCast] at hf
    have HK := Lib.hid hk
    have HF := Lib.hid hf
    have c0 : w.cell? ⟨a, 0, none⟩ = some (.slice (some ⟨g, 0, none⟩) L.length c) := row_cells h1.hp.box 0
    obtain ⟨ck, fk⟩ := h1.st.at_ hk
    have hkl := lt_of_get hk
    have hz := h1.setZ k 2
    obtain ⟨aw, cw, e, -⟩ := h1.wt.shape
    subst e
    have hwl : Wt.length ≤ L.length := perm_len h4
    generalize hw1 : w.setCell ⟨g, k, none⟩ (.int .u8 2) = w1 at hz
    have c2 : w1.cell? ⟨a, 2, none⟩ = some (.slice aw Wt.length cw) := row_cells hz.1.hp.box 2
    have hB : B ≤ w1.heap.size := Nat.le_trans hz.1.hp.low (Nat.le_of_lt (lt_of_block hz.1.hp.box))
    have HZ := Lib.hid hz
    clear hu hb hf hn hk h1 h2 h3 h4 h5 h6 hz
    have HW1 := Lib.hid hw1
    generalize hwn : Wt.length = wn at *
    generalize hm : L.length = m at *
    go_enter Try.func19, Try.ntmps19
    go_wp2_with fail
    refine HC.out.mono ?_
    rintro e w1 ⟨rfl, rfl⟩
    clear HC
    go_wp2_with (first
      | (at_builtin; go_loud (refine apIL _ rfl (.tmp 19) (.tmp 21) rfl B _ _ rfl HZ.out.1.wt [(k : Int)] _ 1 1 rfl rfl rfl rfl (by omega) hB ?_); intro v' w2 hg; obtain ⟨g2, c2, e, -⟩ := hg.own.form (by simp); rw [show (Wt ++ [(k : Int)]).length = wn + 1 by simp [hwn]] at e; subst e; have G := Lib.hid (HZ.out.1.wput hg); have c3 : w2.cell? ⟨a, 2, none⟩ = some (.slice aw wn cw) := row_cells G.out.2.2 2; have f3 := box_frozen G.out.2.2 2; clear hg))
    go_ret
    rw [HF.out.1, HF.out.2]
    exact St.sp (r := .int .i64 0) (HZ.out.2.trans G.out.2.1) G.out.1 H1.out.2.1 (by rw [are_same HK.out (by decide) (by decide)]; exact H1.out.2.2.1) (are_turn HK.out (by decide) (List.perm_append_comm.trans (H1.out.2.2.2.1.cons _))) (three_set H1.out.2.2.2.2.1 k (.inr (.inr rfl))) (by rw [List.length_set]; omega) (by rw [List.length_set]; omega)
set_option maxHeartbeats 4000000 in
theorem used_any (B : Nat) (F : List Nat) (a : Nat) (L : List Int) (w : World) (h : PSp B w F a L) :
    Calls Try.prog 16 #[.pointer (some ⟨a, 0, none⟩)] w fun e w' => ∃ v1 v2 F', e = .returned (.tuple #[v1, v2]) ∧ Only F w w' ∧ PSp B w' F' a L ∧ (∀ b ∈ F', b ∈ F ∨ w.heap.size ≤ b) ∧
      OwnI w' w.heap.size v1 (areL L 1) ∧ OwnI w' w.heap.size v2 (areL L 2) ∧ (∀ g, v1.ownBlock = some g → v2.ownBlock ≠ some g ∧ g ∉ F') ∧ ∀ g, v2.ownBlock = some g → g ∉ F' := by
  have HS := Lib.hid h
  obtain ⟨g, c, vf, vw, H, Wt, rfl, h1, h2, h3, h4, h5, h6, h7⟩ := h
  have H1 := Lib.hid (And.intro h1 h7)
  clear h1 h2 h3 h4 h5 h6 h7
  go_enter Try.func16, Try.ntmps16
  go_wp2_with fail
  refine (all_any B a g c vf vw L H Wt 1 w H1.out.1 H1.out.2).mono ?_
  rintro e w1 ⟨v1, rfl, o1, b1⟩
  have H2 := Lib.hid (And.intro o1 b1)
  clear o1 b1
  go_wp2_with fail
  refine (all_any B a g c vf vw L H Wt 2 w1 (H1.out.1.keep fun b hb => H2.out.2.block b (H1.out.1.lt b hb).2) H1.out.2).mono ?_
  rintro e w2 ⟨v2, rfl, o2, b2⟩
  have H3 := Lib.hid (And.intro o2 b2)
  clear o2 b2
  go_wp2_with fail
  go_ret2
  have hb := below_then H2.out.2 H3.out.2
  have hlt := HS.out.lt
  refine ⟨v1, v2, _, rfl, Only.of_below hb, HS.out.keep fun b hb' => hb.block b (hlt b hb').2, fun b hb => .inl hb, H2.out.1.then_ H3.out.2, H3.out.1.base H2.out.2.size, fun q hq => ⟨fun e => ?_, fun e => ?_⟩, fun q hq e => ?_⟩
  · have := (H2.out.1.block q hq).2; have := (H3.out.1.block q e).1; omega
  · have := (H2.out.1.block q hq).1; have := (hlt q e).2; omega
  · have := (H3.out.1.block q hq).1; have := H2.out.2.size; have := (hlt q e).2; omega
end Go.Proofs.Yteoekfmjlmpmgaa
