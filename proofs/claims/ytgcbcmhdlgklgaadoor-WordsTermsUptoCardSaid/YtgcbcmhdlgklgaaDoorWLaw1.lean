/- The law WordsSplits over the contracts. No statement is proved here. -/
import Derived.Test.YtgcbcmhdlgklgaaDoorWSplit2
namespace Go.Proofs.YtgcbcmhdlgklgaaDoor
open Go.RowKit Go.Lib
set_option maxRecDepth 100000

/-- The program's calls answer so, in every world that has grown out of W. -/
structure P9 (W : World) : Prop where
  tabs : TabsW W
  awake : ∀ w : World, Below W.heap.size W w → Calls Tryd.prog 5 #[] w fun e w' => e = .returned (.bool true) ∧ Below w.heap.size w w'
  split : ∀ (s : ByteArray) (w : World), s.size ≤ 140737488351232 → Below W.heap.size W w → Calls Tryd.prog 7 #[.string s] w fun e w' => ∃ v, e = .returned v ∧ OwnS w' w.heap.size v (splitL (bsI s)) ∧ Below w.heap.size w w'
set_option maxHeartbeats 8000000 in
theorem wsplits_law {W : World} (P : P9 W) (s : ByteArray) (hs : s.size ≤ 140737488351232) :
    Calls Tryd.prog 3 #[.string s] W fun e w' => e = .returned (.bool true) ∧ Below W.heap.size W w' := by
  obtain ⟨i0, hi0, hz0, hz1, hz2⟩ := info_parts info_str
  have I0 := Lib.hid (And.intro hi0 (And.intro hz0 (And.intro hz1 hz2)))
  have HP := Lib.hid P
  have HN := Lib.hid (splitL_len (bsI s))
  clear hi0 hz0 hz1 hz2 P
  obtain ⟨ws, hws⟩ : ∃ ws, ws = splitL (bsI s) := ⟨_, rfl⟩
  have HW := Lib.hid hws
  clear hws
  go_enter Tryd.func3, Tryd.ntmps3
  go_wp2_with fail
  refine (HP.out.awake W (Below.refl _ _)).mono ?_
  rintro e w1 ⟨rfl, b1⟩
  have B1 := Lib.hid b1
  clear b1
  go_wp2_with fail
  refine (rsplit_any s hs w1 (HP.out.tabs.then_ B1.out)).mono ?_
  rintro e w2 ⟨v1, rfl, o1, b2⟩
  rw [← HW.out] at o1
  obtain ⟨a1, c1, rfl, i1, -⟩ := o1.shape
  have B2 := Lib.hid (below_then B1.out b2)
  have I1 := Lib.hid i1
  clear b2 o1 i1
  go_wp2_with fail
  refine (HP.out.split s w2 hs B2.out).mono ?_
  rintro e w3 ⟨v2, rfl, o2, b3⟩
  rw [← HW.out] at o2
  obtain ⟨a2, c2, rfl, i2, hf2, -⟩ := o2.shape
  obtain ⟨n, hn⟩ : ∃ n, ws.length = n := ⟨_, rfl⟩
  have hn2 : n ≤ 200 := by rw [← hn, HW.out]; exact HN.out
  have B3 := Lib.hid (below_then B2.out b3)
  have O2 := Lib.hid (And.intro o2 (And.intro i2 (And.intro hn (And.intro b3 hf2))))
  rw [hn]
  clear b3 o2 i2 hn hf2
  go_wp2_with fail
  refine (same_true a2 a1 c2 c1 n ws w3 O2.out.2.1 (I1.out.then_ O2.out.2.2.2.1) O2.out.2.2.1 (by omega)).mono ?_
  rintro e w4 ⟨rfl, b4⟩
  have R4 : Hid (w4.ownsRow w2.heap.size 9 1 (.slice a2 n c2) n (stV ws)) := Lib.hid (by have h := row_keep O2.out.1 b4; rw [O2.out.2.2.1] at h; exact h)
  have B4 := Lib.hid (below_then B3.out b4)
  have b24 := Lib.hid (below_then O2.out.2.2.2.1 b4)
  clear b4
  go_wp2_with fail
  go_loopw [7] (fun i wr => ∃ (k : Nat) (xs : List Value), k ≤ n ∧ i = .int .i64 (k : Int) ∧ Hid (wr.ownsRow w2.heap.size 9 1 (.slice a2 n c2) n xs ∧ Below w2.heap.size w2 wr)) (fun i _ => n - (intOf i).toNat)
  case atStart => exact ⟨0, _, by omega, rfl, R4.out, b24.out⟩
  case round =>
    obtain ⟨k, xs, hk, rfl, HK⟩ := hrel
    by_cases hlt : k < n
    · obtain ⟨g, cg, eg, hg1, hg2⟩ := World.ownsRow.form HK.1 (by omega)
      injection eg with ea _ _
      subst ea
      obtain ⟨y, hy⟩ : ∃ y, wr.cell? ⟨g, k, none⟩ = some y := by
        rw [World.ownsRow.cellAt HK.1 k (by omega)]
        exact ⟨_, List.getElem?_eq_getElem (by have := HK.1.1; omega)⟩
      have hf := World.ownsRow.frozenAt HK.1 k
      go_wp2_with fail
      go_roundw
      case rel =>
        have h := World.ownsRow.stored HK.1 k (.string ⟨#[115, 112, 111, 105, 108, 116]⟩)
        exact ⟨k + 1, _, by omega, by go_num, h.1, HK.2.setCell (p := ⟨g, k, none⟩) hg1 _⟩
      case measure => simp [intOf]; omega
    · have hz : w2.heap.size ≤ wr.heap.size := HK.2.size
      go_wp2_with (at_builtin; refine wpList_append_own _ rfl (.tmp 26) (.tmp 27) 23 rfl w2.heap.size 9 i0 _ 1 16 Tryd.underlying23 I0.out.1 I0.out.2.1 I0.out.2.2.1 I0.out.2.2.2 rfl (by decide) _ _ _ rfl (World.ownsRow.alloc HK.1 _) ⟨wr.heap.size, 0, none⟩ 1 1 [.string ⟨#[109, 111, 114, 101]⟩] rfl rfl ((World.ownsRow_lit (size := 1) (e := 9) wr #[.string ⟨#[109, 111, 114, 101]⟩] 1 (Nat.le_refl _) (by decide) rfl).cells rfl) (by intro u hu; simp at hu; subst hu; rfl) (by unfold maxLen; omega) (by omega) (Nat.le_trans hz (below1 _ _).size) ?_; intro v' w5 own1 grow1 _; have O5 := Lib.hid own1; have B5 := Lib.hid ((HK.2.alloc hz _).grown grow1 (Nat.le_trans hz (below1 _ _).size) (fun g hg => (World.ownsRow.lt HK.1 g hg).1)); clear own1 grow1)
      have BW5 := Lib.hid (B2.out.trans (B5.out.mono B2.out.size))
      refine (HP.out.split s w5 hs BW5.out).mono ?_
      rintro e w6 ⟨v6, rfl, o6, b6⟩
      rw [← HW.out] at o6
      obtain ⟨a6, c6, rfl, i6, -⟩ := o6.shape
      rw [O2.out.2.2.1]
      have I6 := Lib.hid i6
      have B6 := Lib.hid (And.intro (below_then BW5.out b6) (I1.out.then_ (B5.out.trans (b6.mono B5.out.size))))
      clear o6 b6 i6
      go_wp2_with fail
      refine (same_true a6 a1 c6 c1 n ws w6 I6.out B6.out.2 O2.out.2.2.1 (by omega)).mono ?_
      rintro e w7 ⟨rfl, b7⟩
      have B7 := Lib.hid (below_then B6.out.1 b7)
      obtain ⟨a8, c8, e8⟩ : ∃ a8 c8, v' = .slice a8 (n + 1) c8 := by
        obtain ⟨g, cap, e, -⟩ := World.ownsRow.form O5.out (by omega)
        exact ⟨_, _, e⟩
      subst e8
      clear b7
      go_wp2_with fail
      go_ret
      exact ⟨rfl, B7.out⟩
end Go.Proofs.YtgcbcmhdlgklgaaDoor
