/- The law BsonForm over its contracts. No statement is proved here. -/
import Derived.Test.YtjfgmcmnpekahaaDoorBAwake
import Derived.Test.YtjfgmcmnpekahaaDoorSame
namespace Go.Proofs.YtjfgmcmnpekahaaDoor
open Go.RowKit
set_option maxRecDepth 100000

theorem InB.low {w : World} {a : Option Addr} {l : List Int} (h : InB w a l) : ∀ b o, a = some ⟨b, o, none⟩ → 1 ≤ l.length → b < w.heap.size := by
  intro b o e hl
  obtain ⟨b', o', e', hc⟩ := h 0 _ (List.getElem?_eq_getElem (by omega))
  rw [e] at e'
  injection e' with e'
  injection e' with e1 e2
  subst e1
  exact cell_lt hc
theorem InB.takeB {w : World} {a : Option Addr} {l : List Int} (h : InB w a l) (k : Nat) : InB w a (l.take k) := fun i x hx => by
  have hi := lt_of_get hx
  rw [List.length_take] at hi
  rw [List.getElem?_take_of_lt (by omega)] at hx
  exact h i x hx
theorem read_bad {bs : List Int} (hB : isB bs) {n : Nat} {c q : Int} (hn : bs.length + 2 ≤ n) (h : readF n bs 0 = .bad c q) : 20 ≤ c ∧ 0 ≤ q ∧ q ≤ bs.length := by
  unfold readF at h
  rw [if_neg (by omega)] at h
  simp only [Int.toNat_zero, List.drop_zero] at h
  split at h
  · rename_i c' q' hd
    injection h with e1 e2
    subst e1 e2
    obtain ⟨a1, a2, a3⟩ := (where_all n).1 _ _ _ _ _ _ hB hn hd
    omega
  · cases h
theorem read_ok {bs : List Int} (hB : isB bs) {n : Nat} {v : V} {m : Nat} (hn : bs.length + 2 ≤ n) (h : readF n bs 0 = .ok v m) :
    isDocV v ∧ bs.take m = encV v ∧ m ≤ bs.length ∧ 5 ≤ m ∧ rightOf v = 0 ∧ (bs.take m).length = m ∧ m ≤ 65536 ∧ (v.fit → decF n (bs.take m) = .ok v m) := by
  unfold readF at h
  rw [if_neg (by omega)] at h
  simp only [Int.toNat_zero, List.drop_zero] at h
  split at h
  · cases h
  · rename_i d m' hd
    injection h with e1 e2
    subst e1
    rw [Nat.zero_add] at e2
    subst e2
    obtain ⟨a1, a2, a3, a4⟩ := doc_form hB hd
    have hl : (bs.take m').length = m' := by rw [List.length_take]; omega
    obtain ⟨-, -, -, -, hmax⟩ := right_doc (v := .mk 5 0 ⟨#[]⟩ [] d) rfl a4
    rw [← a1, hl] at hmax
    refine ⟨rfl, a1, a2, a3, a4, hl, hmax, fun hf => ?_⟩
    have hb := doc_back hf a4 [] 0 (n := n) (by rw [List.append_nil, ← a1, hl]; omega)
    rw [List.append_nil, ← a1, hl] at hb
    unfold decF readF
    rw [if_neg (by omega), if_neg (by omega)]
    simp only [Int.toNat_zero, List.drop_zero]
    rw [hb]
    simp [hl]
theorem encOf_doc {v : V} (hd : isDocV v) (hr : rightOf v = 0) : encOf v = (0, encV v) := by
  obtain ⟨k, n, s, l, d⟩ := v
  have hk : k = 5 := hd
  subst hk
  rw [encOf, if_pos rfl, if_pos hr]
def zeroT : T := .mk 0 0 ⟨#[]⟩ none 0 [] none 0 []
theorem zeroT_ok : zeroT.ok := by simp [zeroT, T.ok, T.okL, T.okD, okInt, okLen, okFar, ByteArray.size]
theorem zeroT_in (w : World) : zeroT.In w := by intro p hp; simp [zeroT, T.places, T.placesL, T.placesD] at hp
theorem same_self (v : V) : sameV v v = true := (sameV_iff v v).2 rfl
set_option maxHeartbeats 8000000 in
theorem form_law (la : Option Addr) (c : Nat) (bs : List Int) (w : World) (hin : InB w la bs) (hB : isB bs) (hc : bs.length ≤ c ∧ c ≤ 140737488351232) (h0 : la = none → c = 0) {B : Nat} (hE : Env2 w B) (hBw : B ≤ w.heap.size) :
    Calls Tryd.prog 6 #[.slice la bs.length c] w fun e w' => e = .returned (.bool true) ∧ Below w.heap.size w w' := by
  have HI := Lib.hid (And.intro hin (And.intro hB hE))
  obtain ⟨n, hn⟩ : ∃ n, bs.length + 2 ≤ n := ⟨_, Nat.le_refl _⟩
  have HN := Lib.hid hn
  clear hin hB hE hn
  go_enter Tryd.func6, Tryd.ntmps6
  go_wp2_with fail
  refine (awake02_any _ HI.out.2.2 hBw).mono ?_
  rintro e w1 ⟨rfl, b1⟩
  have B1 := Lib.hid b1
  clear b1
  go_wp2_with fail
  refine (Rd_any la c bs 0 n (reads_all n).1 w1 (HI.out.1.then_ B1.out) hc.1 (by omega) HI.out.2.1 (HI.out.1.then_ B1.out).low (HI.out.2.2.then_ B1.out) (Nat.le_trans hBw B1.out.size) HN.out).mono ?_
  rintro e w2 ⟨b2, hres⟩
  have B2 := Lib.hid (below_then B1.out b2)
  clear b2 B1
  rcases hT : readF n bs 0 with ⟨c', q⟩ | ⟨v, m⟩
  · rw [hT] at hres
    obtain rfl := hres
    obtain ⟨h20, hq0, hq1⟩ := read_bad HI.out.2.1 HN.out hT
    have hcb : (c' != 0) = true := by simp; omega
    rw [show ∀ x y : Value, #[x] ++ placeA 0 ++ #[y] = #[x, .int .i64 0, y] from fun _ _ => rfl]
    clear hT h20
    go_wp2_with (go_at_call 21; refine (same_any zeroT zeroT _ zeroT_ok zeroT_ok (zeroT_in _) (zeroT_in _)).mono ?_; rintro e w3 ⟨rfl, b3⟩; rw [same_self]; have r2 := row_cells (row_then (heap_alloc2_new w2 (.cells #[.int .i64 0, .int .i64 0, .string ⟨#[]⟩, .slice none 0 0, .slice none 0 0] 25) (.cells #[.int .i64 c', .int .i64 q] 36)) b3); have B3 := Lib.hid (below_then (below_then B2.out (below2 _ _ _)) b3); clear b3)
    go_ret
    exact ⟨rfl, B3.out⟩
  · rw [hT] at hres
    obtain ⟨t, rfl, ht, ho⟩ := hres
    obtain ⟨f1, f2, f3, f4, f5, f6, f7, f8⟩ := read_ok HI.out.2.1 HN.out hT
    subst ht
    have F8 := Lib.hid (f8 (T.ok.fit t ho.ok))
    have HF := Lib.hid (And.intro (encOf_doc f1 f5) (And.intro f2 f5))
    obtain ⟨b, o, hla, -⟩ := HI.out.1 0 _ (List.getElem?_eq_getElem (by omega))
    subst hla
    obtain ⟨k, nn, s, la1, lc1, l1, da1, dc1, d1⟩ := t
    have HO := Lib.hid ho
    rw [show ∀ x y : Value, #[x] ++ placeA m ++ #[y] = #[x, .int .i64 m, y] from fun _ _ => rfl]
    dsimp only [T.arg, T.cells]
    clear f1 f2 f5 f8 hT ho
    go_wp2_with fail
    have X2 := below2 w2 (.cells #[.int .i64 k, .int .i64 nn, .string s, .slice la1 l1.length lc1, .slice da1 d1.length dc1] 25) (.cells #[.int .i64 0, .int .i64 0] 36)
    have r1 := heap_alloc2_old w2 (.cells #[.int .i64 k, .int .i64 nn, .string s, .slice la1 l1.length lc1, .slice da1 d1.length dc1] 25) (.cells #[.int .i64 0, .int .i64 0] 36)
    generalize (w2.alloc (.cells #[.int .i64 k, .int .i64 nn, .string s, .slice la1 l1.length lc1, .slice da1 d1.length dc1] 25)).alloc (.cells #[.int .i64 0, .int .i64 0] 36) = U at X2 r1 ⊢
    have BU := Lib.hid (below_then B2.out X2)
    have HU := Lib.hid (HO.out.keep (Only.of_below (S := []) X2) (by simp) (Nat.le_refl _))
    clear X2 HO
    refine (encode_any (.mk k nn s la1 lc1 l1 da1 dc1 d1) HU.out.ok U HU.out.in_ (HI.out.2.2.then_ BU.out) (Nat.le_trans hBw BU.out.size)).mono ?_
    rintro e w3 ⟨v3, rfl, ho3, b3⟩
    rw [HF.out.1] at ho3 ⊢
    obtain ⟨a3, c3, rfl, i3, -⟩ := ho3.shape
    have r3 := row_then r1 b3
    have c3' := row_cells r3
    have HI3 := Lib.hid (And.intro i3 (And.intro r3 (And.intro (HU.out.in_.then_ b3) (below_then BU.out b3))))
    clear ho3 i3 r3 r1 b3
    dsimp only
    go_wp2_with fail
    refine (right_any (.mk k nn s la1 lc1 l1 da1 dc1 d1) HU.out.ok w3 HI3.out.2.2.1 ((HI.out.2.2.then_ HI3.out.2.2.2).tabs)).mono ?_
    rintro e w4 ⟨rfl, b4⟩
    rw [HF.out.2.2]
    have r4 := row_then HI3.out.2.1 b4
    have HI4 := Lib.hid (And.intro (HI3.out.1.then_ b4) (And.intro r4 (And.intro (HI3.out.2.2.1.then_ b4) (below_then HI3.out.2.2.2 b4))))
    clear c3' r4 b4 HI3
    go_wp2_with fail
    have KD := Dec_any (some ⟨b, o, none⟩) c (bs.take m) n (reads_all n).1 w4 ((HI.out.1.then_ HI4.out.2.2.2).takeB m) (by rw [f6]; omega) (by rw [f6]; omega) (isB_take HI.out.2.1 m) ((HI.out.1.then_ HI4.out.2.2.2).takeB m).low (HI.out.2.2.then_ HI4.out.2.2.2) (Nat.le_trans hBw HI4.out.2.2.2.size) (by rw [f6]; have := HN.out; omega)
    rw [F8.out, f6] at KD
    refine KD.mono ?_
    rintro e w5 ⟨b5, t5, rfl, ht5, ho5⟩
    obtain ⟨k5, n5, s5, la5, lc5, l5, da5, dc5, d5⟩ := t5
    rw [show ∀ x y : Value, #[x] ++ placeN m ++ #[y] = #[x, y] from fun _ _ => rfl]
    dsimp only [T.arg, T.cells]
    have r5 := row_then HI4.out.2.1 b5
    have HI5 := Lib.hid (And.intro (HI4.out.1.then_ b5) (And.intro r5 (And.intro (HI4.out.2.2.1.then_ b5) (below_then HI4.out.2.2.2 b5))))
    have HO5 := Lib.hid (And.intro ho5 ht5)
    clear KD b5 r5 ho5 ht5 HI4
    have X5 := below2 w5 (.cells #[.int .i64 k5, .int .i64 n5, .string s5, .slice la5 l5.length lc5, .slice da5 d5.length dc5] 25) (.cells #[.int .i64 0, .int .i64 0] 36)
    have y2 := heap_alloc2_new w5 (.cells #[.int .i64 k5, .int .i64 n5, .string s5, .slice la5 l5.length lc5, .slice da5 d5.length dc5] 25) (.cells #[.int .i64 0, .int .i64 0] 36)
    have g0 := row_cells (row_then HI5.out.2.1 X5)
    have HY := Lib.hid (And.intro y2 X5)
    clear y2 X5
    go_wp2_with fail
    refine (same_any (.mk k nn s la1 lc1 l1 da1 dc1 d1) (.mk k5 n5 s5 la5 lc5 l5 da5 dc5 d5) _ HU.out.ok HO5.out.1.ok (HI5.out.2.2.1.then_ HY.out.2) (HO5.out.1.in_.then_ HY.out.2)).mono ?_
    rintro e w6 ⟨rfl, b6⟩
    rw [HO5.out.2, same_self]
    have h2 := row_cells (row_then HY.out.1 b6)
    have BB := Lib.hid (below_then HY.out.2 b6)
    have HS := Lib.hid (bsame_any a3 (some ⟨b, o, none⟩) c3 c (encV (T.val (.mk k nn s la1 lc1 l1 da1 dc1 d1))).length m (encV (T.val (.mk k nn s la1 lc1 l1 da1 dc1 d1))) (bs.take m) w6 rfl f6 (HI5.out.1.then_ BB.out) (((HI.out.1.then_ HI5.out.2.2.2).then_ BB.out).takeB m) (by rw [← HF.out.2.1, f6]; omega))
    clear b6 g0
    go_wp2_with fail
    refine HS.out.mono ?_
    rintro e w7 ⟨rfl, b7⟩
    have B7 := Lib.hid (below_then (below_then HI5.out.2.2.2 BB.out) b7)
    rw [show decide (encV (T.val (.mk k nn s la1 lc1 l1 da1 dc1 d1)) = bs.take m) = true by rw [HF.out.2.1]; simp]
    clear b7
    go_wp2_with fail
    go_ret
    exact ⟨rfl, B7.out⟩
end Go.Proofs.YtjfgmcmnpekahaaDoor
