/- The law BsonBack over its contracts. No statement is proved here. -/
import Derived.Test.YtjhmmkfhbiikdaaDoorLawTurn
namespace Go.Proofs.YtjhmmkfhbiikdaaDoor
open Go.RowKit
set_option maxRecDepth 100000

theorem read_within {v : V} (hd : isDocV v) (hr : rightOf v = 0) (hf : v.fit) (A C : List Int) {n : Nat} (hn : (A ++ encV v ++ C).length + 2 ≤ n) : readF n (A ++ encV v ++ C) A.length = .ok v (A.length + (encV v).length) := by
  obtain ⟨d, rfl, -, -, hmax⟩ := right_doc hd hr
  have hl : (A ++ encV (.mk 5 0 ⟨#[]⟩ [] d) ++ C).length = A.length + (encV (.mk 5 0 ⟨#[]⟩ [] d)).length + C.length := by rw [List.length_append, List.length_append]
  have hb := doc_back hf hr C A.length (n := n) (by rw [List.length_append]; omega)
  unfold readF
  rw [if_neg (by omega), Int.toNat_natCast, List.append_assoc, List.drop_left, hb]
theorem read_begins {v : V} (hd : isDocV v) (hr : rightOf v = 0) {c n : Nat} (hc : c < (encV v).length) (hn : 1 ≤ n) : readF n ((encV v).take c) 0 = .bad 20 0 := by
  obtain ⟨d, rfl, -, -, hmax⟩ := right_doc hd hr
  unfold readF
  rw [if_neg (by omega)]
  simp only [Int.toNat_zero, List.drop_zero]
  rw [doc_begins hmax hc hn 0]
theorem encOf_no {v : V} {er : Int} {L : List Int} (h : encOf v = (er, L)) (he : er ≠ 0) : L = [] ∧ (¬ isDocV v ∨ rightOf v = er) := by
  obtain ⟨k, n, s, l, d⟩ := v
  rw [encOf] at h
  split at h
  · split at h
    · injection h with e _
      exact absurd e.symm he
    · injection h with e1 e2
      exact ⟨e2.symm, .inr e1⟩
  · rename_i hk
    injection h with e1 e2
    exact ⟨e2.symm, .inl hk⟩
set_option maxHeartbeats 8000000 in
theorem bback_law (t : T) (la : Option Addr) (ca : Nat) (A : List Int) (lb : Option Addr) (cb : Nat) (C : List Int) (cut : Int) (w : World) (ok : t.ok) (hin : t.In w) (hA : InB w la A) (hAB : isB A) (hA0 : la = none → ca = 0) (hAc : A.length ≤ ca) (hAl : A.length ≤ 1048576) (hC : InB w lb C) (hCB : isB C) (hC0 : lb = none → cb = 0) (hCc : C.length ≤ cb) (hCl : C.length ≤ 1048576)
    (hc0 : -9223372036854775808 ≤ cut) (hc1 : cut ≤ 9223372036854775807) {B : Nat} (hE : Env2 w B) (hBw : B ≤ w.heap.size) :
    Calls Tryd.prog 5 #[t.arg, .slice la A.length ca, .slice lb C.length cb, .int .i64 cut] w fun e w' => e = .returned (.bool true) ∧ Below w.heap.size w w' := by
  obtain ⟨k, nn, s, ta, tc, l, da, dc, d⟩ := t
  show Calls _ _ #[.agg #[.int .i64 k, .int .i64 nn, .string s, .slice ta l.length tc, .slice da d.length dc], .slice la A.length ca, .slice lb C.length cb, .int .i64 cut] _ _
  have HI := Lib.hid (And.intro ok (And.intro hin hE))
  have HA := Lib.hid (And.intro (And.intro hA (And.intro hAB (fun h => ⟨hA0 h, List.eq_nil_of_length_eq_zero (by have := hA0 h; omega)⟩ : la = none → ca = 0 ∧ A = []))) (And.intro hC (And.intro hCB (fun h => ⟨hC0 h, List.eq_nil_of_length_eq_zero (by have := hC0 h; omega)⟩ : lb = none → cb = 0 ∧ C = []))))
  have b0 := below1 w (.cells #[.int .i64 k, .int .i64 nn, .string s, .slice ta l.length tc, .slice da d.length dc] 25)
  have r0 := heap_alloc_new w (.cells #[.int .i64 k, .int .i64 nn, .string s, .slice ta l.length tc, .slice da d.length dc] 25)
  have H0 := Lib.hid (And.intro b0 r0)
  clear ok hin hE b0 r0 hA hAB hA0 hAc hC hCB hC0 hCc
  go_enter Tryd.func5, Tryd.ntmps5
  go_wp2_with fail
  refine (awake02_any _ (HI.out.2.2.then_ H0.out.1) (Nat.le_trans hBw H0.out.1.size)).mono ?_
  rintro e w1 ⟨rfl, b1⟩
  have r1 := row_then H0.out.2 b1
  have c1 := row_cells r1
  have H1 := Lib.hid (And.intro (below_then H0.out.1 b1) r1)
  clear b1 r1 H0
  go_wp2_with fail
  refine (encode_any (.mk k nn s ta tc l da dc d) HI.out.1 w1 (HI.out.2.1.then_ H1.out.1) (HI.out.2.2.then_ H1.out.1) (Nat.le_trans hBw H1.out.1.size)).mono ?_
  rintro e w3 ⟨v3, rfl, ho3, b3⟩
  have r3 := row_then H1.out.2 b3
  have c3 := row_cells r3
  have H3 := Lib.hid (And.intro (below_then H1.out.1 b3) r3)
  obtain ⟨⟨er, L⟩, hL⟩ : ∃ p, encOf (T.val (.mk k nn s ta tc l da dc d)) = p := ⟨_, rfl⟩
  rw [hL] at ho3 ⊢
  clear b3 r3 c1
  by_cases he : er = 0
  · subst he
    obtain ⟨hd, hr, rfl⟩ := encOf_zero hL
    obtain ⟨d2, hv2, hrv, hsz, hmax⟩ := right_doc hd hr
    have h5 := (doc_head (d := d2) (by rw [← hv2]; exact hmax)).2
    rw [← hv2] at h5
    have hB := isB_encV _ _ hrv
    obtain ⟨g, gc, rfl, hcap⟩ := ho3.form (by show 1 ≤ (encV _).length; omega)
    obtain ⟨a', c', e', ib, -⟩ := ho3.shape
    injection e' with e1 e2 e3
    clear e2
    subst e1 e3
    have HF := Lib.hid (And.intro hd (And.intro hr (And.intro (T.ok.fit _ HI.out.1) (And.intro hB ib))))
    have HS := Lib.hid hsz
    have hcapm : gc ≤ 9223372036854775807 := by
      obtain ⟨-, h2⟩ := ho3
      rcases h2 with ⟨hv, _⟩ | ⟨g', cap', cur, hv, _, _, _, hm, _⟩
      · cases hv
      · injection hv with _ _ e; unfold maxLen at hm; omega
    clear hL hd hr hB ho3 ib hv2 hrv hsz
    dsimp only at hcap ⊢
    go_wp2_with fail
    refine (size_any (.mk k nn s ta tc l da dc d) HI.out.1 w3 (HI.out.2.1.then_ H3.out.1)).mono ?_
    rintro e w4 ⟨rfl, b4⟩
    rw [← HS.out]
    have r4 := row_then H3.out.2 b4
    have H4 := Lib.hid (And.intro (below_then H3.out.1 b4) (And.intro r4 (HF.out.2.2.2.2.then_ b4)))
    clear b4 r4 c3 HS H3
    generalize hLL : encV (T.val (.mk k nn s ta tc l da dc d)) = L at *
    have hlen : (A ++ L ++ C).length = A.length + L.length + C.length := by rw [List.length_append, List.length_append]
    go_wp2_with (first
      | (at_builtin; refine apR rfl (.tmp 57) (.tmp 58) rfl w4.heap.size _ [] rfl (OwnB.nil _ _) la A.length ca A rfl rfl (HA.out.1.1.then_ H4.out.1) HA.out.1.2.2 (by simp; omega) (Nat.le_refl _) ?_; intro v5 w5 hg5; have H5 := Lib.hid (And.intro hg5 (hg5.below0 (OwnB.nil _ _) (Nat.le_refl _))); clear hg5)
      | (at_builtin; refine apR rfl (.tmp 60) (.tmp 61) rfl w4.heap.size _ _ rfl H5.out.1.own (some ⟨g, 0, none⟩) L.length gc L rfl rfl (H4.out.2.2.then_ H5.out.2) (fun h => by cases h) (by simp; omega) H5.out.1.size ?_; intro v6 w6 hg6; have H6 := Lib.hid (And.intro (H5.out.1.trans hg6) (hg6.below H5.out.1.own H5.out.2 (Nat.le_refl _) H5.out.1.size)); clear hg6)
      | (at_builtin; refine apR rfl (.tmp 63) (.tmp 64) rfl w4.heap.size _ _ rfl H6.out.1.own lb C.length cb C rfl rfl ((HA.out.2.1.then_ H4.out.1).then_ H6.out.2) HA.out.2.2.2 (by simp; omega) H6.out.1.size ?_; intro v7 w7 hg7; have H7 := Lib.hid (And.intro (H6.out.1.trans hg7) (hg7.below H6.out.1.own H6.out.2 (Nat.le_refl _) H6.out.1.size)); clear hg7))
    have ho7 : OwnB w7 w4.heap.size v7 (A ++ L ++ C) := by have h := H7.out.1.own; rw [List.nil_append] at h; exact h
    obtain ⟨a7, c7, rfl, i7, -, l7, -⟩ := ho7.shape
    have hABC : isB (A ++ L ++ C) := isB.append (isB.append HA.out.1.2.1 HF.out.2.2.2.1) HA.out.2.2.1
    have B7 := Lib.hid (below_then H4.out.1 H7.out.2)
    have K1 := Rd_any a7 c7 (A ++ L ++ C) A.length (A.length + L.length + C.length + 2) (reads_all _).1 w7 i7 l7 (by omega) hABC i7.low (HI.out.2.2.then_ B7.out) (Nat.le_trans hBw B7.out.size) (by omega)
    have hrw := read_within HF.out.1 HF.out.2.1 HF.out.2.2.1 A C (n := A.length + L.length + C.length + 2) (by rw [hLL]; omega)
    rw [hLL] at hrw
    rw [hrw] at K1
    refine K1.mono ?_
    rintro e w8 ⟨b8, t8, rfl, ht8, ho8⟩
    obtain ⟨k8, n8, s8, la8, lc8, l8, da8, dc8, d8⟩ := t8
    rw [show ∀ x y : Value, #[x] ++ placeA (A.length + L.length) ++ #[y] = #[x, .int .i64 ((A.length + L.length : Nat) : Int), y] from fun _ _ => rfl]
    dsimp only [T.arg, T.cells]
    have X8 := below2 w8 (.cells #[.int .i64 k8, .int .i64 n8, .string s8, .slice la8 l8.length lc8, .slice da8 d8.length dc8] 25) (.cells #[.int .i64 0, .int .i64 0] 36)
    have y1 := heap_alloc2_old w8 (.cells #[.int .i64 k8, .int .i64 n8, .string s8, .slice la8 l8.length lc8, .slice da8 d8.length dc8] 25) (.cells #[.int .i64 0, .int .i64 0] 36)
    have y2 := heap_alloc2_new w8 (.cells #[.int .i64 k8, .int .i64 n8, .string s8, .slice la8 l8.length lc8, .slice da8 d8.length dc8] 25) (.cells #[.int .i64 0, .int .i64 0] 36)
    have H8 := Lib.hid (And.intro (below_then B7.out (below_then b8 X8)) (And.intro (row_then H4.out.2.1 (below_then H7.out.2 (below_then b8 X8))) (And.intro y1 (And.intro y2 (And.intro (H4.out.2.2.then_ (below_then H7.out.2 (below_then b8 X8))) (ho8.in_.then_ X8))))))
    have O8 := Lib.hid (And.intro ho8.ok ht8)
    clear K1 hrw i7 l7 ho7 b8 X8 y1 y2 ho8 ht8 H5 H6 H7 B7 hABC
    go_wp2_with fail
    generalize (w8.alloc (.cells #[.int .i64 k8, .int .i64 n8, .string s8, .slice la8 l8.length lc8, .slice da8 d8.length dc8] 25)).alloc (.cells #[.int .i64 0, .int .i64 0] 36) = U8 at H8 ⊢
    have K2 := Dec_any (some ⟨g, 0, none⟩) gc L (L.length + 2) (reads_all _).1 U8 H8.out.2.2.2.2.1 (by omega) (by omega) HF.out.2.2.2.1 H8.out.2.2.2.2.1.low (HI.out.2.2.then_ H8.out.1) (Nat.le_trans hBw H8.out.1.size) (by omega)
    have hdec := dec_enc HF.out.1 HF.out.2.1 HF.out.2.2.1 (n := L.length + 2) (by rw [hLL]; exact Nat.le_refl _)
    rw [hLL] at hdec
    rw [hdec] at K2
    refine K2.mono ?_
    rintro e w9 ⟨b9, t9, rfl, ht9, ho9⟩
    obtain ⟨k9, n9, s9, la9, lc9, l9, da9, dc9, d9⟩ := t9
    rw [show ∀ x y : Value, #[x] ++ placeN L.length ++ #[y] = #[x, y] from fun _ _ => rfl]
    dsimp only [T.arg, T.cells]
    have X9 := below2 w9 (.cells #[.int .i64 k9, .int .i64 n9, .string s9, .slice la9 l9.length lc9, .slice da9 d9.length dc9] 25) (.cells #[.int .i64 0, .int .i64 0] 36)
    have y1 := heap_alloc2_old w9 (.cells #[.int .i64 k9, .int .i64 n9, .string s9, .slice la9 l9.length lc9, .slice da9 d9.length dc9] 25) (.cells #[.int .i64 0, .int .i64 0] 36)
    have y2 := heap_alloc2_new w9 (.cells #[.int .i64 k9, .int .i64 n9, .string s9, .slice la9 l9.length lc9, .slice da9 d9.length dc9] 25) (.cells #[.int .i64 0, .int .i64 0] 36)
    have z4 := row_then H8.out.2.1 (below_then b9 X9)
    have z8 := row_then H8.out.2.2.1 (below_then b9 X9)
    have z8f := row_then H8.out.2.2.2.1 (below_then b9 X9)
    have g4 := row_cells z4
    have g8 := row_cells z8
    have H9 := Lib.hid (And.intro (below_then H8.out.1 (below_then b9 X9)) (And.intro z4 (And.intro z8f (And.intro y1 (And.intro y2 (And.intro (H8.out.2.2.2.2.1.then_ (below_then b9 X9)) (And.intro (H8.out.2.2.2.2.2.then_ (below_then b9 X9)) (ho9.in_.then_ X9))))))))
    have O9 := Lib.hid (And.intro ho9.ok ht9)
    clear K2 hdec b9 X9 y1 y2 z4 z8 z8f ho9 ht9 H8
    go_wp2_with fail
    refine (same_any (.mk k8 n8 s8 la8 lc8 l8 da8 dc8 d8) (.mk k nn s ta tc l da dc d) _ O8.out.1 HI.out.1 H9.out.2.2.2.2.2.2.1 (HI.out.2.1.then_ H9.out.1)).mono ?_
    rintro e w10 ⟨rfl, b10⟩
    rw [O8.out.2, same_self]
    have z4 := row_then H9.out.2.1 b10
    have z9 := row_then H9.out.2.2.2.1 b10
    have g4' := row_cells z4
    have g9 := row_cells z9
    have H10 := Lib.hid (And.intro (below_then H9.out.1 b10) (And.intro (row_then H9.out.2.2.1 b10) (And.intro (row_then H9.out.2.2.2.2.1 b10) (And.intro (H9.out.2.2.2.2.2.1.then_ b10) (H9.out.2.2.2.2.2.2.2.then_ b10)))))
    clear g4 g8 z4 z9 b10 H9
    go_wp2_with fail
    refine (same_any (.mk k9 n9 s9 la9 lc9 l9 da9 dc9 d9) (.mk k nn s ta tc l da dc d) _ O9.out.1 HI.out.1 H10.out.2.2.2.2 (HI.out.2.1.then_ H10.out.1)).mono ?_
    rintro e w11 ⟨rfl, b11⟩
    rw [O9.out.2, same_self]
    have g8 := row_cells (row_then H10.out.2.1 b11)
    have g9' := row_cells (row_then H10.out.2.2.1 b11)
    have H11 := Lib.hid (And.intro (below_then H10.out.1 b11) (H10.out.2.2.2.1.then_ b11))
    clear g4' g9 b11 H10
    by_cases hcut : cut < 0
    · go_wp2_with fail
      go_ret
      exact ⟨rfl, H11.out.1⟩
    · obtain ⟨p, rfl⟩ : ∃ p : Nat, cut = p := ⟨cut.toNat, by omega⟩
      have hk0 : p % L.length < L.length := Nat.mod_lt _ (by omega)
      have hne : ((L.length : Nat) : Int) ≠ 0 := by omega
      have hmod : (p : Int) % (L.length : Int) = ((p % L.length : Nat) : Int) := by omega
      generalize hkk : p % L.length = kk at *
      have htk : (L.take kk).length = kk := by rw [List.length_take]; omega
      have HTK := Lib.hid htk
      clear hcut hkk htk
      go_wp2_with fail
      have i12 := H11.out.2.takeB kk
      have K3 := Rd_any (some ⟨g, 0, none⟩) gc (L.take kk) 0 (kk + 2) (reads_all _).1 w11 i12 (by rw [HTK.out]; omega) (by rw [HTK.out]; omega) (isB_take HF.out.2.2.2.1 kk) i12.low (HI.out.2.2.then_ H11.out.1) (Nat.le_trans hBw H11.out.1.size) (by rw [HTK.out]; omega)
      have hbg := read_begins HF.out.1 HF.out.2.1 (c := kk) (n := kk + 2) (by rw [hLL]; exact hk0) (by omega)
      rw [hLL] at hbg
      rw [hbg, HTK.out] at K3
      refine K3.mono ?_
      rintro e w12 ⟨b12, rfl⟩
      rw [show ∀ x y : Value, #[x] ++ placeA 0 ++ #[y] = #[x, .int .i64 0, y] from fun _ _ => rfl]
      have B12 := Lib.hid (below_then H11.out.1 b12)
      clear K3 hbg i12 b12 g8 g9'
      go_wp2_with fail
      go_ret
      exact ⟨rfl, below_then B12.out (below2 _ _ _)⟩
  · obtain ⟨rfl, hno⟩ := encOf_no hL he
    obtain ⟨a3, cc3, rfl, -⟩ := ho3.shape
    have hne : (er != 0) = true := by simpa using he
    clear ho3 hL he
    go_wp2_with fail
    refine (right_any (.mk k nn s ta tc l da dc d) HI.out.1 w3 (HI.out.2.1.then_ H3.out.1) ((HI.out.2.2.then_ H3.out.1).tabs)).mono ?_
    rintro e w4 ⟨rfl, b4⟩
    have c4 := row_cells (row_then H3.out.2 b4)
    have B4 := Lib.hid (below_then H3.out.1 b4)
    clear b4 c3
    by_cases hk : k = 5
    · subst hk
      have hr : rightOf (T.val (.mk 5 nn s ta tc l da dc d)) = er := by
        rcases hno with h | h
        · rw [T.val_mk] at h; exact absurd rfl h
        · exact h
      rw [hr]
      clear hno hr
      go_wp2_with fail
      go_ret
      exact ⟨rfl, B4.out⟩
    · have hkb : (k != 5) = true := by simpa using hk
      clear hno hk
      go_wp2_with fail
      go_ret
      exact ⟨rfl, B4.out⟩
end Go.Proofs.YtjhmmkfhbiikdaaDoor
