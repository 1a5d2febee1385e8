/- The law WordsAgain over the contracts. No statement is proved here. -/
import Derived.Test.YtgcbcmhdlgklgaaWJoin
namespace Go.Proofs.Ytgcbcmhdlgklgaa
open Go.RowKit Go.Lib
set_option maxRecDepth 100000

def txtArg (s : ByteArray) : Value := .agg #[.int .i64 4, .int .i64 0, .string s, .slice none 0 0, .slice none 0 0]
theorem text_any (s : ByteArray) (w : World) : Calls Try.prog 9 #[.string s] w fun e w' => e = .returned (txtArg s) ∧ Below w.heap.size w w' := by
  go_enter Try.func9, Try.ntmps9
  go_wp2
  exact bodyPost_ret (v := txtArg s) (by simp [results, Try.results9, go_sem, txtArg]) rfl ⟨rfl, below1 _ _⟩
/-- The program's calls answer so, in every world that has grown out of W. -/
structure P9a (W : World) : Prop where
  awake : ∀ w : World, Below W.heap.size W w → Calls Try.prog 5 #[] w fun e w' => e = .returned (.bool true) ∧ Below w.heap.size w w'
  split : ∀ (s : ByteArray) (w : World), s.size ≤ 562949953421312 → Below W.heap.size W w → Calls Try.prog 6 #[.string s] w fun e w' => ∃ v, e = .returned v ∧ OwnS w' w.heap.size v (splitL (bsI s)) ∧ Below w.heap.size w w'
  score : ∀ (s : ByteArray) (w : World), s.size ≤ 140737488351232 → Below W.heap.size W w → Calls Try.prog 8 #[txtArg s, .string s] w fun e w' => e = .returned (.int .i64 ((splitL (bsI s)).length : Nat)) ∧ Below w.heap.size w w'
theorem OwnS.cap {w : World} {B n c : Nat} {a : Option Addr} {ws : List (List Int)} (h : OwnS w B (.slice a n c) ws) : ws.length ≤ c := by
  obtain ⟨h1, h2⟩ := h
  rcases h2 with ⟨hv, hz⟩ | ⟨g, cap, cur, hv, hb, hg, hle, hcm, hrest⟩
  · omega
  · injection hv with _ _ e; omega
theorem joinW_next {ws : List (List Int)} {k : Nat} {x : List Int} (hx : ws[k]? = some x) (hk : 0 < k) : joinW (ws.take (k + 1)) = joinW (ws.take k) ++ 32 :: x := by
  have hl := lt_of_get hx
  rw [List.take_add_one, hx]
  exact joinW_snoc _ _ (fun h => by have := congrArg List.length h; rw [List.length_take, Nat.min_eq_left (by omega)] at this; simp at this; omega)
theorem str_first {ws : List (List Int)} {x : List Int} (hx : ws[0]? = some x) : (⟨#[]⟩ : ByteArray) ++ strOfNums x = strOfNums (joinW (ws.take 1)) := by
  have e : ws.take 1 = [x] := by
    have := List.take_add_one (l := ws) (i := 0)
    rw [hx] at this
    simpa using this
  rw [e, joinW]
  apply ByteArray.ext
  simp
theorem str_next {ws : List (List Int)} {k : Nat} {x : List Int} (hx : ws[k]? = some x) (hk : 0 < k) : strOfNums (joinW (ws.take k)) ++ (⟨#[32]⟩ : ByteArray) ++ strOfNums x = strOfNums (joinW (ws.take (k + 1))) := by
  rw [joinW_next hx hk, strOf_append]
  apply ByteArray.ext
  simp [strOfNums]
set_option maxHeartbeats 8000000 in
theorem wagain_law {W : World} (P : P9a W) (s t : ByteArray) (hs : s.size ≤ 140737488351232) (ht : t.size ≤ 140737488351232) :
    Calls Try.prog 3 #[.string s, .string t] W fun e w' => e = .returned (.bool true) ∧ Below W.heap.size W w' := by
  have HP := Lib.hid P
  have HN := Lib.hid (And.intro (splitL_len (bsI s)) (splitL_len (bsI t)))
  have HB := Lib.hid (split_both (bsI s) (bsI t))
  have HG := Lib.hid (And.intro (split_again (bsI s)) (splitL_are (l := bsI s)))
  clear P
  obtain ⟨ws, hws⟩ : ∃ ws, ws = splitL (bsI s) := ⟨_, rfl⟩
  obtain ⟨vs, hvs⟩ : ∃ vs, vs = splitL (bsI t) := ⟨_, rfl⟩
  rw [← hws, ← hvs] at HN HB
  rw [← hws] at HG
  have HW := Lib.hid (And.intro hws hvs)
  clear hws hvs
  go_enter Try.func3, Try.ntmps3
  go_wp2_with fail
  refine (HP.out.awake W (Below.refl _ _)).mono ?_
  rintro e w1 ⟨rfl, b1⟩
  have B1 := Lib.hid b1
  clear b1
  go_wp2_with fail
  refine (HP.out.split s w1 (by omega) B1.out).mono ?_
  rintro e w2 ⟨v1, rfl, o1, b2⟩
  rw [← HW.out.1] at o1
  obtain ⟨a1, c1, rfl, i1, -, -, z1⟩ := o1.shape
  obtain ⟨n, hn⟩ : ∃ n, ws.length = n := ⟨_, rfl⟩
  have B2 := Lib.hid (below_then B1.out b2)
  have I1 := Lib.hid (And.intro i1 (And.intro hn z1))
  have hn2 : n ≤ 200 := by rw [← hn]; exact HN.out.1
  rw [hn]
  clear b2 o1 i1 hn z1
  go_wp2_with fail
  refine (HP.out.split t w2 (by omega) B2.out).mono ?_
  rintro e w3 ⟨v2, rfl, o2, b3⟩
  rw [← HW.out.2] at o2
  obtain ⟨a2, c2, rfl, i2, -, -, z2⟩ := o2.shape
  obtain ⟨m, hm⟩ : ∃ m, vs.length = m := ⟨_, rfl⟩
  have B3 := Lib.hid (below_then B2.out b3)
  have I3 := Lib.hid (And.intro (I1.out.1.then_ b3) (And.intro i2 (And.intro hm z2)))
  have hm2 : m ≤ 200 := by rw [← hm]; exact HN.out.2
  rw [hm]
  clear b3 o2 i2 hm z2
  go_wp2_with fail
  go_loop [8, 9] (fun x i => ∃ k : Nat, k ≤ n ∧ i = .int .i64 (k : Int) ∧ x = .string (strOfNums (joinW (ws.take k)))) (fun _ i => n - (intOf i).toNat)
  case atStart => exact ⟨0, by omega, rfl, rfl⟩
  case round =>
    obtain ⟨k, hk, rfl, rfl⟩ := hrel
    by_cases hlt : k < n
    · obtain ⟨x, hx⟩ : ∃ x, ws[k]? = some x := ⟨_, List.getElem?_eq_getElem (by rw [I1.out.2.1]; exact hlt)⟩
      obtain ⟨b, o, rfl, c0⟩ := I3.out.1 k x hx
      have hxw := (HG.out.2 x (List.mem_of_getElem? hx)).1
      have hxs := strOf_size x
      have hJ0 := joinW_len (ws.take k) fun w hw => HG.out.2 w (List.mem_of_mem_take hw)
      have hJs := strOf_size (joinW (ws.take k))
      rw [List.length_take, I1.out.2.1] at hJ0
      have q1 : 1 ≤ (strOfNums x).size := by omega
      have q2 : (strOfNums x).size ≤ 40 := by omega
      have q3 : (strOfNums (joinW (ws.take k))).size ≤ 8200 := by omega
      have HX := Lib.hid hx
      clear hxs hJs hJ0 hxw hx
      by_cases h0 : k = 0
      · subst h0
        rw [Nat.add_zero] at c0
        rw [show strOfNums (joinW (ws.take 0)) = ⟨#[]⟩ from rfl]
        go_wp2_with fail
        go_round
        case rel => exact ⟨1, by omega, rfl, by rw [str_first HX.out]⟩
        case measure => simp [intOf]; omega
      · have h1 : 0 < k := by omega
        clear h0
        go_wp2_with fail
        go_round
        case rel => exact ⟨k + 1, by omega, by go_num, by rw [str_next HX.out h1]⟩
        case measure => simp [intOf]; omega
    · have hJ0 := joinW_len ws HG.out.2
      have hJs := strOf_size (joinW ws)
      rw [I1.out.2.1] at hJ0
      have q3 : (strOfNums (joinW ws)).size ≤ 8200 := by omega
      have HJ := Lib.hid (show bsI (strOfNums (joinW ws)) = joinW ws from bsI_str (joinW_isB ws HG.out.2))
      rw [show ws.take k = ws from List.take_of_length_le (by rw [I1.out.2.1]; omega)]
      clear hJ0 hJs
      go_wp2_with fail
      refine (HP.out.split _ w3 (by omega) B3.out).mono ?_
      rintro e w4 ⟨v4, rfl, o4, b4⟩
      rw [HJ.out, HG.out.1] at o4
      obtain ⟨a4, c4, rfl, i4, -⟩ := o4.shape
      rw [I1.out.2.1]
      have B4 := Lib.hid (below_then B3.out b4)
      have I4 := Lib.hid (And.intro i4 (And.intro (I3.out.1.then_ b4) (I3.out.2.1.then_ b4)))
      clear b4 o4 i4 q3
      go_wp2_with fail
      refine (same_true a4 a1 c4 c1 n ws w4 I4.out.1 I4.out.2.1 I1.out.2.1 (by omega)).mono ?_
      rintro e w5 ⟨rfl, b5⟩
      have B5 := Lib.hid (below_then B4.out b5)
      have I5 := Lib.hid (And.intro (I4.out.2.1.then_ b5) (I4.out.2.2.then_ b5))
      clear b5
      go_wp2_with fail
      refine (text_any s w5).mono ?_
      rintro e w6 ⟨rfl, b6⟩
      have B6 := Lib.hid (below_then B5.out b6)
      have I6 := Lib.hid (And.intro (I5.out.1.then_ b6) (I5.out.2.then_ b6))
      clear b6
      go_wp2_with fail
      refine (HP.out.score s w6 (by omega) B6.out).mono ?_
      rintro e w7 ⟨rfl, b7⟩
      rw [← HW.out.1, I1.out.2.1]
      have B7 := Lib.hid (below_then B6.out b7)
      have I7 := Lib.hid (And.intro (I6.out.1.then_ b7) (I6.out.2.then_ b7))
      have hz7 := B7.out.size
      clear b7
      go_wp2_with fail
      have hbs : bsI (s ++ (⟨#[32]⟩ : ByteArray) ++ t) = bsI s ++ 32 :: bsI t := by rw [bsI_append, bsI_append, List.append_assoc]; rfl
      have hsz : (s ++ (⟨#[32]⟩ : ByteArray) ++ t).size ≤ 562949953421312 := by
        have h1 := bsI_len (s ++ (⟨#[32]⟩ : ByteArray) ++ t)
        rw [hbs, List.length_append, List.length_cons, bsI_len, bsI_len] at h1
        omega
      refine (HP.out.split _ w7 hsz B7.out).mono ?_
      rintro e w8 ⟨v8, rfl, o8, b8⟩
      rw [hbs] at o8
      obtain ⟨a8, c8, rfl, i8, -⟩ := o8.shape
      obtain ⟨q, hq⟩ : ∃ q, (splitL (bsI s ++ 32 :: bsI t)).length = q := ⟨_, rfl⟩
      have B8 := Lib.hid (below_then B7.out b8)
      have I8 := Lib.hid (And.intro (I7.out.1.then_ b8) (And.intro (I7.out.2.then_ b8) (And.intro i8 hq)))
      have hz8 := B8.out.size
      rw [hq]
      clear b8 o8 i8 hq hbs hsz
      have hnn : ws.length ≤ n := by rw [I1.out.2.1]; omega
      have hmm : vs.length ≤ m := by rw [I3.out.2.2.1]; omega
      by_cases cA : 200 < n + m
      · have kA : (200 : Int) < (n : Int) + (m : Int) := by omega
        go_wp2_with (first
          | (at_builtin; refine wpList_apSR rfl (.tmp 79) (.tmp 80) rfl w8.heap.size _ _ rfl (OwnS.nil _ _) a1 n c1 ws rfl I1.out.2.1 I8.out.1 I1.out.2.2 (by rw [List.length_nil]; omega) (Nat.le_refl _) ?_; intro u1 x2 ho1 hg1; have G1 := Lib.hid ho1; have X2 := Lib.hid ((Below.refl w8.heap.size w8).grown hg1 (Nat.le_refl _) (fun g hg => by cases hg)); clear ho1 hg1)
          | (at_builtin; refine wpList_apSR rfl (.tmp 82) (.tmp 83) rfl w8.heap.size _ _ rfl G1.out a2 m c2 vs rfl I3.out.2.2.1 (I8.out.2.1.then_ X2.out) I3.out.2.2.2 (by rw [List.nil_append]; omega) X2.out.size ?_; intro u2 x3 ho2 hg2; have G2 := Lib.hid ho2; have X3 := Lib.hid (X2.out.grown hg2 X2.out.size (fun g hg => (G1.out.block g hg).1)); clear ho2 hg2; obtain ⟨a9, c9, e9, i9, -, -, z9⟩ := G2.out.shape; subst e9; have hc9 : n + m ≤ c9 := (by have h := G2.out.cap; rw [List.nil_append, List.length_append, I1.out.2.1, I3.out.2.2.1] at h; exact h); have EL : (([] ++ ws ++ vs : List (List Int))).length = n + m := (by rw [List.nil_append, List.length_append, I1.out.2.1, I3.out.2.2.1]); rw [EL]; have I9 := Lib.hid (And.intro i9 EL); clear i9 EL))
        go_ret
        exact ⟨rfl, B8.out.trans (X3.out.mono hz8)⟩
      by_cases cB : m = 200
      · have kB : ((m : Int) == 200) = true := by simp; omega
        have kA : ¬ (200 : Int) < (n : Int) + (m : Int) := by omega
        clear cB
        go_wp2_with (first
          | (at_builtin; refine wpList_apSR rfl (.tmp 79) (.tmp 80) rfl w8.heap.size _ _ rfl (OwnS.nil _ _) a1 n c1 ws rfl I1.out.2.1 I8.out.1 I1.out.2.2 (by rw [List.length_nil]; omega) (Nat.le_refl _) ?_; intro u1 x2 ho1 hg1; have G1 := Lib.hid ho1; have X2 := Lib.hid ((Below.refl w8.heap.size w8).grown hg1 (Nat.le_refl _) (fun g hg => by cases hg)); clear ho1 hg1)
          | (at_builtin; refine wpList_apSR rfl (.tmp 82) (.tmp 83) rfl w8.heap.size _ _ rfl G1.out a2 m c2 vs rfl I3.out.2.2.1 (I8.out.2.1.then_ X2.out) I3.out.2.2.2 (by rw [List.nil_append]; omega) X2.out.size ?_; intro u2 x3 ho2 hg2; have G2 := Lib.hid ho2; have X3 := Lib.hid (X2.out.grown hg2 X2.out.size (fun g hg => (G1.out.block g hg).1)); clear ho2 hg2; obtain ⟨a9, c9, e9, i9, -, -, z9⟩ := G2.out.shape; subst e9; have hc9 : n + m ≤ c9 := (by have h := G2.out.cap; rw [List.nil_append, List.length_append, I1.out.2.1, I3.out.2.2.1] at h; exact h); have EL : (([] ++ ws ++ vs : List (List Int))).length = n + m := (by rw [List.nil_append, List.length_append, I1.out.2.1, I3.out.2.2.1]); rw [EL]; have I9 := Lib.hid (And.intro i9 EL); clear i9 EL))
        go_ret
        exact ⟨rfl, B8.out.trans (X3.out.mono hz8)⟩
      by_cases cC : n = 200
      · have kB : ((m : Int) == 200) = false := by simp; omega
        have kC : ((n : Int) == 200) = true := by simp; omega
        have kA : ¬ (200 : Int) < (n : Int) + (m : Int) := by omega
        clear cB cC
        go_wp2_with (first
          | (at_builtin; refine wpList_apSR rfl (.tmp 79) (.tmp 80) rfl w8.heap.size _ _ rfl (OwnS.nil _ _) a1 n c1 ws rfl I1.out.2.1 I8.out.1 I1.out.2.2 (by rw [List.length_nil]; omega) (Nat.le_refl _) ?_; intro u1 x2 ho1 hg1; have G1 := Lib.hid ho1; have X2 := Lib.hid ((Below.refl w8.heap.size w8).grown hg1 (Nat.le_refl _) (fun g hg => by cases hg)); clear ho1 hg1)
          | (at_builtin; refine wpList_apSR rfl (.tmp 82) (.tmp 83) rfl w8.heap.size _ _ rfl G1.out a2 m c2 vs rfl I3.out.2.2.1 (I8.out.2.1.then_ X2.out) I3.out.2.2.2 (by rw [List.nil_append]; omega) X2.out.size ?_; intro u2 x3 ho2 hg2; have G2 := Lib.hid ho2; have X3 := Lib.hid (X2.out.grown hg2 X2.out.size (fun g hg => (G1.out.block g hg).1)); clear ho2 hg2; obtain ⟨a9, c9, e9, i9, -, -, z9⟩ := G2.out.shape; subst e9; have hc9 : n + m ≤ c9 := (by have h := G2.out.cap; rw [List.nil_append, List.length_append, I1.out.2.1, I3.out.2.2.1] at h; exact h); have EL : (([] ++ ws ++ vs : List (List Int))).length = n + m := (by rw [List.nil_append, List.length_append, I1.out.2.1, I3.out.2.2.1]); rw [EL]; have I9 := Lib.hid (And.intro i9 EL); clear i9 EL))
        go_ret
        exact ⟨rfl, B8.out.trans (X3.out.mono hz8)⟩
      have kB : ((m : Int) == 200) = false := by simp; omega
      have kC : ((n : Int) == 200) = false := by simp; omega
      have kA : ¬ (200 : Int) < (n : Int) + (m : Int) := by omega
      have hbo := HB.out (by rw [I1.out.2.1]; omega) (by rw [I3.out.2.2.1]; omega) (by rw [I1.out.2.1, I3.out.2.2.1]; omega)
      have hqe : q = n + m := by
        have h := I8.out.2.2.2
        rw [hbo, List.length_append, I1.out.2.1, I3.out.2.2.1] at h
        omega
      have IB := Lib.hid (show InW w8 a8 (ws ++ vs) by have h := I8.out.2.2.1; rw [hbo] at h; exact h)
      rw [hqe]
      clear hqe hbo cB cC
      go_wp2_with (first
        | (at_builtin; refine wpList_apSR rfl (.tmp 79) (.tmp 80) rfl w8.heap.size _ _ rfl (OwnS.nil _ _) a1 n c1 ws rfl I1.out.2.1 I8.out.1 I1.out.2.2 (by rw [List.length_nil]; omega) (Nat.le_refl _) ?_; intro u1 x2 ho1 hg1; have G1 := Lib.hid ho1; have X2 := Lib.hid ((Below.refl w8.heap.size w8).grown hg1 (Nat.le_refl _) (fun g hg => by cases hg)); clear ho1 hg1)
        | (at_builtin; refine wpList_apSR rfl (.tmp 82) (.tmp 83) rfl w8.heap.size _ _ rfl G1.out a2 m c2 vs rfl I3.out.2.2.1 (I8.out.2.1.then_ X2.out) I3.out.2.2.2 (by rw [List.nil_append]; omega) X2.out.size ?_; intro u2 x3 ho2 hg2; have G2 := Lib.hid ho2; have X3 := Lib.hid (X2.out.grown hg2 X2.out.size (fun g hg => (G1.out.block g hg).1)); clear ho2 hg2; obtain ⟨a9, c9, e9, i9, -, -, z9⟩ := G2.out.shape; subst e9; have hc9 : n + m ≤ c9 := (by have h := G2.out.cap; rw [List.nil_append, List.length_append, I1.out.2.1, I3.out.2.2.1] at h; exact h); have EL : (([] ++ ws ++ vs : List (List Int))).length = n + m := (by rw [List.nil_append, List.length_append, I1.out.2.1, I3.out.2.2.1]); rw [EL]; have I9 := Lib.hid (And.intro i9 EL); clear i9 EL))
      refine (same_true a8 a9 c8 c9 (n + m) (ws ++ vs) x3 (IB.out.then_ X3.out) (by have h := I9.out.1; rw [List.nil_append] at h; exact h) (by rw [List.length_append, I1.out.2.1, I3.out.2.2.1]) (by omega)).mono ?_
      rintro e w9 ⟨rfl, b9⟩
      have B9 := Lib.hid (below_then (B8.out.trans (X3.out.mono hz8)) b9)
      clear b9
      go_wp2_with fail
      go_ret
      exact ⟨rfl, B9.out⟩
end Go.Proofs.Ytgcbcmhdlgklgaa
