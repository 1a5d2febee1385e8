/- The words of all texts in a value, by the document: contract. Over XYT, with api.Value's kit. No statement is proved here. -/
import Derived.Test.YtgcbcmhdlgklgaaDoorWSplit2
import Derived.Test.YtgcbcmhdlgklgaaDoorWAllP
namespace Go.Proofs.YtgcbcmhdlgklgaaDoor
open Go.RowKit Go.Lib
set_option maxRecDepth 100000

/-- What the document's own `all` yields of a value that lies there. -/
def AllAt (t : T) : Prop := ∀ (w : World), t.In w → TabsW w → (allW t.val).length ≤ 1000000000000 →
    Calls Tryd.prog 26 #[t.arg] w fun e w' => ∃ v, e = .returned v ∧ OwnS w' w.heap.size v (allW t.val) ∧ Below w.heap.size w w'
/-- The words so far. -/
structure AllR (w0 wr : World) (u : Value) (ws : List (List Int)) : Prop where
  row : OwnS wr w0.heap.size u ws
  below : Below w0.heap.size w0 wr
theorem AllR.start (w : World) : AllR w w (.slice none 0 0) [] := ⟨OwnS.nil _ _, Below.refl _ _⟩
theorem AllR.more {w0 wr w2 w3 : World} {u v : Value} {ws bs : List (List Int)} (h : AllR w0 wr u ws) (b2 : Below wr.heap.size wr w2) (ho : OwnS w3 w0.heap.size v (ws ++ bs)) (hg : w2.grownBy w3 u.ownBlock) : AllR w0 w3 v (ws ++ bs) :=
  ⟨ho, (below_then h.below b2).grown hg (below_then h.below b2).size (fun g hg => (h.row.block g hg).1)⟩
set_option maxHeartbeats 4000000 in
theorem allL_case (n : Int) (s : ByteArray) (la : Option Addr) (lc : Nat) (l : List T) (da : Option Addr) (dc dn : Nat) (w : World) (ha : InL w la l) (hn : l.length ≤ 1759218604390) (ih : ∀ x ∈ l, AllAt x) (hT : TabsW w) (hm : (allWL (l.map T.val)).length ≤ 1000000000000) :
    Calls Tryd.prog 26 #[.agg #[.int .i64 6, .int .i64 n, .string s, .slice la l.length lc, .slice da dn dc]] w fun e w' => ∃ v, e = .returned v ∧ OwnS w' w.heap.size v (allWL (l.map T.val)) ∧ Below w.heap.size w w' := by
  have HA := Lib.hid (And.intro (ha.then_ (below1 w (.cells #[.int .i64 6, .int .i64 n, .string s, .slice la l.length lc, .slice da dn dc] 30))) (hT.then_ (below1 w (.cells #[.int .i64 6, .int .i64 n, .string s, .slice la l.length lc, .slice da dn dc] 30))))
  have IH := Lib.hid ih
  have HM := Lib.hid hm
  have HW := Lib.hid (below1 w (.cells #[.int .i64 6, .int .i64 n, .string s, .slice la l.length lc, .slice da dn dc] 30))
  have HBX := Lib.hid (heap_alloc_new w (.cells #[.int .i64 6, .int .i64 n, .string s, .slice la l.length lc, .slice da dn dc] 30))
  have HZ := Lib.hid (AllR.start (w.alloc (.cells #[.int .i64 6, .int .i64 n, .string s, .slice la l.length lc, .slice da dn dc] 30)))
  have hgz : w.heap.size < (w.alloc (.cells #[.int .i64 6, .int .i64 n, .string s, .slice la l.length lc, .slice da dn dc] 30)).heap.size := by simp
  have HGZ := Lib.hid hgz
  clear ha ih hm hT hgz
  go_enter Tryd.func26, Tryd.ntmps26
  go_wp2_with fail
  generalize (w.alloc (.cells #[.int .i64 6, .int .i64 n, .string s, .slice la l.length lc, .slice da dn dc] 30)) = w1 at *
  go_loopw [3, 4] (fun u i wr => ∃ k : Nat, k ≤ l.length ∧ i = .int .i64 k ∧ Hid (AllR w1 wr u (allWL ((l.map T.val).take k)))) (fun _ i _ => l.length - (intOf i).toNat)
  case atStart => exact ⟨0, by omega, rfl, by simpa [allWL] using HZ⟩
  case round =>
    obtain ⟨k, hk, rfl, HK⟩ := hrel
    have hbx := row_then HBX.out (HK.out.below)
    have c3 := row_cells hbx 3
    clear hbx
    by_cases h1 : k < l.length
    · obtain ⟨b, o, k1, n1, s1, la1, lc1, l1, da1, dc1, d1, rfl, hx, hix, x0, x1, x2, x3, x4⟩ := (HA.out.1.then_ HK.out.below).five h1
      have hvx : (l.map T.val)[k]? = some (T.val (.mk k1 n1 s1 la1 lc1 l1 da1 dc1 d1)) := by rw [List.getElem?_map, hx]; rfl
      have HR := Lib.hid (allWL_room hvx)
      have HS := Lib.hid (allWL_step hvx)
      have H := Lib.hid (IH.out _ (List.mem_of_getElem? hx) wr hix (HA.out.2.then_ HK.out.below) (by have := HM.out; have := HR.out; omega))
      clear hx hix hvx
      go_wp2_with (first
        | (go_at_call 26; refine H.out.mono ?_; rintro e w2 ⟨v2, rfl, ho2, b2⟩; obtain ⟨a2, c2, rfl, i2, -, -, z2⟩ := ho2.shape; have B2 := Lib.hid b2; have I2 := Lib.hid (And.intro i2 z2); clear ho2 b2 i2 z2)
        | (at_builtin; refine wpList_apSR rfl (.tmp 22) (.tmp 28) rfl w1.heap.size _ _ rfl (HK.out.row.then_ B2.out) a2 _ c2 _ rfl rfl I2.out.1 I2.out.2 (by have := HM.out; have := HR.out; omega) (below_then HK.out.below B2.out).size ?_; intro v3 w3 ho3 hg3; have H3 := Lib.hid (HK.out.more B2.out ho3 hg3); clear ho3 hg3))
      go_roundw
      case rel => exact ⟨k + 1, by omega, by go_num, by rw [HS.out]; exact H3⟩
      case measure => simp [intOf]; omega
    · have HKE : Hid ((l.map T.val).take k = l.map T.val) := Lib.hid (List.take_of_length_le (by rw [List.length_map]; omega))
      go_wp2_with fail
      go_ret
      have h := HK.out
      rw [HKE.out] at h
      exact ⟨_, rfl, h.row.lower HW.out.size, below_then HW.out h.below⟩
set_option maxHeartbeats 4000000 in
theorem allD_case (n : Int) (s : ByteArray) (la : Option Addr) (lc : Nat) (l : List (ByteArray × T)) (da : Option Addr) (dc dn : Nat) (w : World) (ha : InD w la l) (hn : l.length ≤ 1759218604390) (ih : ∀ x ∈ l, AllAt x.2) (hT : TabsW w) (hm : (allWD (l.map fun f => (f.1, f.2.val))).length ≤ 1000000000000) :
    Calls Tryd.prog 26 #[.agg #[.int .i64 5, .int .i64 n, .string s, .slice da dn dc, .slice la l.length lc]] w fun e w' => ∃ v, e = .returned v ∧ OwnS w' w.heap.size v (allWD (l.map fun f => (f.1, f.2.val))) ∧ Below w.heap.size w w' := by
  have HA := Lib.hid (And.intro (ha.then_ (below1 w (.cells #[.int .i64 5, .int .i64 n, .string s, .slice da dn dc, .slice la l.length lc] 30))) (hT.then_ (below1 w (.cells #[.int .i64 5, .int .i64 n, .string s, .slice da dn dc, .slice la l.length lc] 30))))
  have IH := Lib.hid ih
  have HM := Lib.hid hm
  have HW := Lib.hid (below1 w (.cells #[.int .i64 5, .int .i64 n, .string s, .slice da dn dc, .slice la l.length lc] 30))
  have HBX := Lib.hid (heap_alloc_new w (.cells #[.int .i64 5, .int .i64 n, .string s, .slice da dn dc, .slice la l.length lc] 30))
  have HZ := Lib.hid (AllR.start (w.alloc (.cells #[.int .i64 5, .int .i64 n, .string s, .slice da dn dc, .slice la l.length lc] 30)))
  have hgz : w.heap.size < (w.alloc (.cells #[.int .i64 5, .int .i64 n, .string s, .slice da dn dc, .slice la l.length lc] 30)).heap.size := by simp
  have HGZ := Lib.hid hgz
  clear ha ih hm hT hgz
  go_enter Tryd.func26, Tryd.ntmps26
  go_wp2_with fail
  generalize (w.alloc (.cells #[.int .i64 5, .int .i64 n, .string s, .slice da dn dc, .slice la l.length lc] 30)) = w1 at *
  go_loopw [3, 5] (fun u i wr => ∃ k : Nat, k ≤ l.length ∧ i = .int .i64 k ∧ Hid (AllR w1 wr u (allWD ((l.map fun f => (f.1, f.2.val)).take k)))) (fun _ i _ => l.length - (intOf i).toNat)
  case atStart => exact ⟨0, by omega, rfl, by simpa [allWD] using HZ⟩
  case round =>
    obtain ⟨k, hk, rfl, HK⟩ := hrel
    have hbx := row_then HBX.out (HK.out.below)
    have c4 := row_cells hbx 4
    clear hbx
    by_cases h1 : k < l.length
    · obtain ⟨b, o, f1, k1, n1, s1, la1, lc1, l1, da1, dc1, d1, rfl, hx, hix, x0, x1, x2, x3, x4, x5⟩ := (HA.out.1.then_ HK.out.below).six h1
      have hvx : (l.map fun f => (f.1, f.2.val))[k]? = some (f1, T.val (.mk k1 n1 s1 la1 lc1 l1 da1 dc1 d1)) := by rw [List.getElem?_map, hx]; rfl
      have HR := Lib.hid (show (allWD ((l.map fun f => (f.1, f.2.val)).take k)).length + (allW (T.val (.mk k1 n1 s1 la1 lc1 l1 da1 dc1 d1))).length ≤ (allWD (l.map fun f => (f.1, f.2.val))).length from allWD_room hvx)
      have HS := Lib.hid (show allWD ((l.map fun f => (f.1, f.2.val)).take (k + 1)) = allWD ((l.map fun f => (f.1, f.2.val)).take k) ++ (allW (T.val (.mk k1 n1 s1 la1 lc1 l1 da1 dc1 d1))) from allWD_step hvx)
      have H := Lib.hid ((show AllAt (.mk k1 n1 s1 la1 lc1 l1 da1 dc1 d1) from IH.out _ (List.mem_of_getElem? hx)) wr hix (HA.out.2.then_ HK.out.below) (by have := HM.out; have := HR.out; omega))
      clear hx hix hvx
      go_wp2_with (first
        | (go_at_call 26; refine H.out.mono ?_; rintro e w2 ⟨v2, rfl, ho2, b2⟩; obtain ⟨a2, c2, rfl, i2, -, -, z2⟩ := ho2.shape; have B2 := Lib.hid b2; have I2 := Lib.hid (And.intro i2 z2); clear ho2 b2 i2 z2)
        | (at_builtin; refine wpList_apSR rfl (.tmp 39) (.tmp 46) rfl w1.heap.size _ _ rfl (HK.out.row.then_ B2.out) a2 _ c2 _ rfl rfl I2.out.1 I2.out.2 (by have := HM.out; have := HR.out; omega) (below_then HK.out.below B2.out).size ?_; intro v3 w3 ho3 hg3; have H3 := Lib.hid (HK.out.more B2.out ho3 hg3); clear ho3 hg3))
      go_roundw
      case rel => exact ⟨k + 1, by omega, by go_num, by rw [HS.out]; exact H3⟩
      case measure => simp [intOf]; omega
    · have HKE : Hid ((l.map fun f => (f.1, f.2.val)).take k = l.map fun f => (f.1, f.2.val)) := Lib.hid (List.take_of_length_le (by rw [List.length_map]; omega))
      go_wp2_with fail
      go_ret
      have h := HK.out
      rw [HKE.out] at h
      exact ⟨_, rfl, h.row.lower HW.out.size, below_then HW.out h.below⟩
set_option maxHeartbeats 2000000 in
theorem allS_case (n : Int) (s : ByteArray) (hs : s.size ≤ 140737488351232) (la : Option Addr) (lc ln : Nat) (da : Option Addr) (dc dn : Nat) (w : World) (hT : TabsW w) :
    Calls Tryd.prog 26 #[.agg #[.int .i64 4, .int .i64 n, .string s, .slice la ln lc, .slice da dn dc]] w fun e w' => ∃ v, e = .returned v ∧ OwnS w' w.heap.size v (splitL (bsI s)) ∧ Below w.heap.size w w' := by
  have HW := Lib.hid (below1 w (.cells #[.int .i64 4, .int .i64 n, .string s, .slice la ln lc, .slice da dn dc] 30))
  have H := Lib.hid (rsplit_any s hs (w.alloc (.cells #[.int .i64 4, .int .i64 n, .string s, .slice la ln lc, .slice da dn dc] 30)) (hT.then_ (below1 _ _)))
  clear hT
  go_enter Tryd.func26, Tryd.ntmps26
  go_wp2_with fail
  refine H.out.mono ?_
  rintro e w2 ⟨v2, rfl, ho2, b2⟩
  have H2 := Lib.hid (And.intro (ho2.lower HW.out.size) (below_then HW.out b2))
  clear ho2 b2
  go_wp2_with fail
  go_ret
  exact ⟨_, rfl, H2.out⟩
set_option maxHeartbeats 2000000 in
theorem allN_case (k n : Int) (h4 : k ≠ 4) (h5 : k ≠ 5) (h6 : k ≠ 6) (s : ByteArray) (la : Option Addr) (lc ln : Nat) (da : Option Addr) (dc dn : Nat) (w : World) :
    Calls Tryd.prog 26 #[.agg #[.int .i64 k, .int .i64 n, .string s, .slice la ln lc, .slice da dn dc]] w fun e w' => ∃ v, e = .returned v ∧ OwnS w' w.heap.size v [] ∧ Below w.heap.size w w' := by
  have HW := Lib.hid (below1 w (.cells #[.int .i64 k, .int .i64 n, .string s, .slice la ln lc, .slice da dn dc] 30))
  go_enter Tryd.func26, Tryd.ntmps26
  go_wp2_with fail
  go_ret
  exact ⟨_, rfl, OwnS.nil _ _, HW.out⟩
theorem all_any (t : T) : t.ok → AllAt t := by
  induction t using T.ind with
  | h k n s la lc l da dc d ihl ihd =>
  intro ok w hin hT hm
  obtain ⟨k0, k1, n0, n1, hs, hl1, hl2, hd1, hd2, okl, okd⟩ := ok.parts
  obtain ⟨inl, ind⟩ := hin.parts
  rw [T.val_mk, allW] at hm
  rw [T.val_mk, allW]
  show Calls _ _ #[.agg #[.int .i64 k, .int .i64 n, .string s, .slice la l.length lc, .slice da d.length dc]] _ _
  by_cases h4 : k = 4
  · rw [if_pos h4] at hm ⊢
    subst h4
    exact allS_case n s hs la lc l.length da dc d.length w hT
  rw [if_neg h4] at hm ⊢
  by_cases h6 : k = 6
  · rw [if_pos h6] at hm ⊢
    subst h6
    exact allL_case n s la lc l da dc d.length w inl (by omega) (fun x hx => ihl x hx (okl x hx)) hT hm
  rw [if_neg h6] at hm ⊢
  by_cases h5 : k = 5
  · rw [if_pos h5] at hm ⊢
    subst h5
    exact allD_case n s da dc d la lc l.length w ind (by omega) (fun x hx => ihd x hx (okd x hx).2) hT hm
  rw [if_neg h5]
  exact allN_case k n h4 h5 h6 s la lc l.length da dc d.length w
#print axioms all_any
end Go.Proofs.YtgcbcmhdlgklgaaDoor
