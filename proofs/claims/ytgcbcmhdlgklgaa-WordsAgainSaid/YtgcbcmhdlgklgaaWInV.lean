/- The words of all texts in a value: what the program's iterator tells. No statement is proved here. -/
import Derived.Test.YtgcbcmhdlgklgaaWInT
namespace Go.Proofs.Ytgcbcmhdlgklgaa
open Go.RowKit Go.Lib
set_option maxRecDepth 100000

section
variable {Arg : Nat → Prop} {w : World} {l0 TB : Nat} {Th : World → Nat → Prop} {J Jx : List (List Int) → World → Prop} {W : World} {L : List (List Int)}
set_option maxHeartbeats 4000000 in
theorem tellS_case (TT : Told Try.prog Arg encW L w l0 Th J Jx W) (hTB : W.heap.size ≤ TB) (n : Int) (s : ByteArray) (hs : okFar s.size) (la : Option Addr) (lc ln : Nat) (da : Option Addr) (dc dn : Nat) (pre : List (List Int)) (A : World) (h : InR Arg w l0 TB Th J W pre A) (hp : pre ++ splitL (bsI s) <+: L) :
    Calls Try.prog 22 #[.agg #[.int .i64 4, .int .i64 n, .string s, .slice la ln lc, .slice da dn dc], .func (.func 23) #[] #[.pointer (some ⟨TB, 0, none⟩)]] A (TellTo Arg w l0 TB Th J Jx W L pre (splitL (bsI s))) := by
  have hI := h.below TT (below1 A (.cells #[.int .i64 4, .int .i64 n, .string s, .slice la ln lc, .slice da dn dc] 30))
  have H := Lib.hid (tellText_any TT s hs hTB pre _ hI hp)
  clear TT h hp hI
  go_enter Try.func22, Try.ntmps22
  go_wp2_with (go_at_call 23; refine H.out.mono ?_; rintro e w2 (⟨rfl, h2⟩ | ⟨rfl, h2⟩))
  · go_ret
    exact .inl ⟨rfl, h2⟩
  · go_ret
    exact .inr ⟨rfl, h2⟩
set_option maxHeartbeats 2000000 in
theorem tellN_case (TT : Told Try.prog Arg encW L w l0 Th J Jx W) (k n : Int) (h4 : k ≠ 4) (h5 : k ≠ 5) (h6 : k ≠ 6) (s : ByteArray) (la : Option Addr) (lc ln : Nat) (da : Option Addr) (dc dn : Nat) (v : Value) (pre : List (List Int)) (A : World) (h : InR Arg w l0 TB Th J W pre A) :
    Calls Try.prog 22 #[.agg #[.int .i64 k, .int .i64 n, .string s, .slice la ln lc, .slice da dn dc], v] A (TellTo Arg w l0 TB Th J Jx W L pre []) := by
  have hI := Lib.hid (h.below TT (below1 A (.cells #[.int .i64 k, .int .i64 n, .string s, .slice la ln lc, .slice da dn dc] 30)))
  clear TT h
  go_enter Try.func22, Try.ntmps22
  go_wp2_with fail
  go_ret
  exact .inl ⟨rfl, by rw [List.append_nil]; exact hI.out⟩
set_option maxHeartbeats 4000000 in
theorem tellL_case (TT : Told Try.prog Arg encW L w l0 Th J Jx W) {w0 : World} (hw : Below w0.heap.size w0 w) (harg : ∀ k, k < w0.heap.size → Arg k) (n : Int) (s : ByteArray) (la : Option Addr) (lc : Nat) (l : List T) (da : Option Addr) (dc dn : Nat) (ha : InL w0 la l) (hn : l.length ≤ 1759218604390)
    (ih : ∀ x ∈ l, TellAt Arg w l0 TB Th J Jx W L x) (pre : List (List Int)) (A : World) (h : InR Arg w l0 TB Th J W pre A) (hp : pre ++ allWL (l.map T.val) <+: L) :
    Calls Try.prog 22 #[.agg #[.int .i64 6, .int .i64 n, .string s, .slice la l.length lc, .slice da dn dc], .func (.func 23) #[] #[.pointer (some ⟨TB, 0, none⟩)]] A (TellTo Arg w l0 TB Th J Jx W L pre (allWL (l.map T.val))) := by
  have hI := h.below TT (below1 A (.cells #[.int .i64 6, .int .i64 n, .string s, .slice la l.length lc, .slice da dn dc] 30))
  have hbx := heap_alloc_new A (.cells #[.int .i64 6, .int .i64 n, .string s, .slice la l.length lc, .slice da dn dc] 30)
  have hnt : ¬ Th (A.alloc (.cells #[.int .i64 6, .int .i64 n, .string s, .slice la l.length lc, .slice da dn dc] 30)) A.heap.size := fun hc => TT.fresh h.j (Nat.le_refl _) ((TT.stab _ _ h.far.size (.of_below (below1 A _)) _).1 hc)
  have hgz : A.heap.size < (A.alloc (.cells #[.int .i64 6, .int .i64 n, .string s, .slice la l.length lc, .slice da dn dc] 30)).heap.size := by simp
  have HT := Lib.hid TT
  have HH := Lib.hid (And.intro hI (And.intro hbx (And.intro hnt hgz)))
  have HA := Lib.hid (And.intro ha (And.intro hw harg))
  have IH := Lib.hid ih
  have HP := Lib.hid hp
  have hsz := h.far.size
  clear TT h hp hI hbx hnt hgz ha ih hw harg
  go_enter Try.func22, Try.ntmps22
  go_wp2_with fail
  generalize (A.alloc (.cells #[.int .i64 6, .int .i64 n, .string s, .slice la l.length lc, .slice da dn dc] 30)) = W1 at *
  go_loopw [6, 22] (fun u i wr => ∃ k : Nat, k ≤ l.length ∧ i = .int .i64 k ∧ Hid (InR Arg w l0 TB Th J W (pre ++ allWL ((l.map T.val).take k)) wr)) (fun _ i _ => l.length - (intOf i).toNat)
  case atStart => exact ⟨0, by omega, rfl, by have h := HH.out.1; show InR _ _ _ _ _ _ _ _ _; simpa [allWL] using h⟩
  case round =>
    obtain ⟨k, hk, rfl, HK⟩ := hrel
    have hlow := HK.out.low HT.out HA.out.2.1 HA.out.2.2
    by_cases h1 : k < l.length
    · obtain ⟨b, o, k1, n1, s1, la1, lc1, l1, da1, dc1, d1, rfl, hx, hix, x0, x1, x2, x3, x4⟩ := (HA.out.1.below (Nat.le_refl _) hlow).five h1
      have hvx : (l.map T.val)[k]? = some (T.val (.mk k1 n1 s1 la1 lc1 l1 da1 dc1 d1)) := by rw [List.getElem?_map, hx]; rfl
      have HS := Lib.hid (allWL_step hvx)
      have hpx : pre ++ allWL ((l.map T.val).take k) ++ allW (T.val (.mk k1 n1 s1 la1 lc1 l1 da1 dc1 d1)) <+: L := by
        rw [List.append_assoc, ← HS.out]
        refine List.IsPrefix.trans ((List.prefix_append_right_inj pre).2 ⟨allWL ((l.map T.val).drop (k + 1)), ?_⟩) HP.out
        rw [← allWL_append, List.take_append_drop]
      have H := Lib.hid (fun C (hc : InR Arg w l0 TB Th J W (pre ++ allWL ((l.map T.val).take k)) C) => IH.out _ (List.mem_of_getElem? hx) (pre ++ allWL ((l.map T.val).take k)) C hc hpx)
      have HI2 := Lib.hid (HK.out.below HT.out (below1 wr (.cells #[.int .i64 k1, .int .i64 n1, .string s1, .slice la1 l1.length lc1, .slice da1 d1.length dc1] 30)))
      clear hx hix hvx hlow hpx
      go_wp2_with (go_at_call 22; refine (H.out _ HI2.out).mono ?_; rintro e w2 (⟨rfl, h2⟩ | ⟨rfl, h2⟩))
      · have HE := Lib.hid h2
        clear h2
        go_roundw
        case rel => exact ⟨k + 1, by omega, by go_num, by rw [HS.out, ← List.append_assoc]; exact HE.out⟩
        case measure => simp [intOf]; omega
      · go_ret
        exact .inr ⟨rfl, h2⟩
    · have HKE : Hid ((l.map T.val).take k = l.map T.val) := Lib.hid (List.take_of_length_le (by rw [List.length_map]; omega))
      clear hlow
      go_wp2_with fail
      go_ret
      have h := HK.out
      rw [HKE.out] at h
      exact .inl ⟨rfl, h⟩
set_option maxHeartbeats 4000000 in
theorem tellD_case (TT : Told Try.prog Arg encW L w l0 Th J Jx W) {w0 : World} (hw : Below w0.heap.size w0 w) (harg : ∀ k, k < w0.heap.size → Arg k) (n : Int) (s : ByteArray) (la : Option Addr) (lc : Nat) (l : List (ByteArray × T)) (da : Option Addr) (dc dn : Nat) (ha : InD w0 la l) (hn : l.length ≤ 1759218604390)
    (ih : ∀ x ∈ l, TellAt Arg w l0 TB Th J Jx W L x.2) (pre : List (List Int)) (A : World) (h : InR Arg w l0 TB Th J W pre A) (hp : pre ++ allWD (l.map fun f => (f.1, f.2.val)) <+: L) :
    Calls Try.prog 22 #[.agg #[.int .i64 5, .int .i64 n, .string s, .slice da dn dc, .slice la l.length lc], .func (.func 23) #[] #[.pointer (some ⟨TB, 0, none⟩)]] A (TellTo Arg w l0 TB Th J Jx W L pre (allWD (l.map fun f => (f.1, f.2.val)))) := by
  have hI := h.below TT (below1 A (.cells #[.int .i64 5, .int .i64 n, .string s, .slice da dn dc, .slice la l.length lc] 30))
  have hbx := heap_alloc_new A (.cells #[.int .i64 5, .int .i64 n, .string s, .slice da dn dc, .slice la l.length lc] 30)
  have hnt : ¬ Th (A.alloc (.cells #[.int .i64 5, .int .i64 n, .string s, .slice da dn dc, .slice la l.length lc] 30)) A.heap.size := fun hc => TT.fresh h.j (Nat.le_refl _) ((TT.stab _ _ h.far.size (.of_below (below1 A _)) _).1 hc)
  have hgz : A.heap.size < (A.alloc (.cells #[.int .i64 5, .int .i64 n, .string s, .slice da dn dc, .slice la l.length lc] 30)).heap.size := by simp
  have HT := Lib.hid TT
  have HH := Lib.hid (And.intro hI (And.intro hbx (And.intro hnt hgz)))
  have HA := Lib.hid (And.intro ha (And.intro hw harg))
  have IH := Lib.hid ih
  have HP := Lib.hid hp
  have hsz := h.far.size
  clear TT h hp hI hbx hnt hgz ha ih hw harg
  go_enter Try.func22, Try.ntmps22
  go_wp2_with fail
  generalize (A.alloc (.cells #[.int .i64 5, .int .i64 n, .string s, .slice da dn dc, .slice la l.length lc] 30)) = W1 at *
  go_loopw [8, 36] (fun u i wr => ∃ k : Nat, k ≤ l.length ∧ i = .int .i64 k ∧ Hid (InR Arg w l0 TB Th J W (pre ++ allWD ((l.map fun f => (f.1, f.2.val)).take k)) wr)) (fun _ i _ => l.length - (intOf i).toNat)
  case atStart => exact ⟨0, by omega, rfl, by have h := HH.out.1; show InR _ _ _ _ _ _ _ _ _; simpa [allWD] using h⟩
  case round =>
    obtain ⟨k, hk, rfl, HK⟩ := hrel
    have hlow := HK.out.low HT.out HA.out.2.1 HA.out.2.2
    by_cases h1 : k < l.length
    · obtain ⟨b, o, f1, k1, n1, s1, la1, lc1, l1, da1, dc1, d1, rfl, hx, hix, x0, x1, x2, x3, x4, x5⟩ := (HA.out.1.below (Nat.le_refl _) hlow).six h1
      have hvx : (l.map fun f => (f.1, f.2.val))[k]? = some (f1, T.val (.mk k1 n1 s1 la1 lc1 l1 da1 dc1 d1)) := by rw [List.getElem?_map, hx]; rfl
      have HS := Lib.hid (show allWD ((l.map fun f => (f.1, f.2.val)).take (k + 1)) = allWD ((l.map fun f => (f.1, f.2.val)).take k) ++ (allW (T.val (.mk k1 n1 s1 la1 lc1 l1 da1 dc1 d1))) from allWD_step hvx)
      have hpx : pre ++ allWD ((l.map fun f => (f.1, f.2.val)).take k) ++ allW (T.val (.mk k1 n1 s1 la1 lc1 l1 da1 dc1 d1)) <+: L := by
        rw [List.append_assoc, ← HS.out]
        refine List.IsPrefix.trans ((List.prefix_append_right_inj pre).2 ⟨allWD ((l.map fun f => (f.1, f.2.val)).drop (k + 1)), ?_⟩) HP.out
        rw [← allWD_append, List.take_append_drop]
      have H := Lib.hid (fun C (hc : InR Arg w l0 TB Th J W (pre ++ allWD ((l.map fun f => (f.1, f.2.val)).take k)) C) => (show TellAt Arg w l0 TB Th J Jx W L (.mk k1 n1 s1 la1 lc1 l1 da1 dc1 d1) from IH.out _ (List.mem_of_getElem? hx)) (pre ++ allWD ((l.map fun f => (f.1, f.2.val)).take k)) C hc hpx)
      have HI2 := Lib.hid (HK.out.below HT.out (below1 wr (.cells #[.string f1, .int .i64 k1, .int .i64 n1, .string s1, .slice la1 l1.length lc1, .slice da1 d1.length dc1] 52)))
      clear hx hix hvx hlow hpx
      go_wp2_with (go_at_call 22; refine (H.out _ HI2.out).mono ?_; rintro e w2 (⟨rfl, h2⟩ | ⟨rfl, h2⟩))
      · have HE := Lib.hid h2
        clear h2
        go_roundw
        case rel => exact ⟨k + 1, by omega, by go_num, by rw [HS.out, ← List.append_assoc]; exact HE.out⟩
        case measure => simp [intOf]; omega
      · go_ret
        exact .inr ⟨rfl, h2⟩
    · have HKE : Hid ((l.map fun f => (f.1, f.2.val)).take k = l.map fun f => (f.1, f.2.val)) := Lib.hid (List.take_of_length_le (by rw [List.length_map]; omega))
      clear hlow
      go_wp2_with fail
      go_ret
      have h := HK.out
      rw [HKE.out] at h
      exact .inl ⟨rfl, h⟩
theorem tell_any (TT : Told Try.prog Arg encW L w l0 Th J Jx W) (hTB : W.heap.size ≤ TB) {w0 : World} (hw : Below w0.heap.size w0 w) (harg : ∀ k, k < w0.heap.size → Arg k) (t : T) : t.ok → t.In w0 → TellAt Arg w l0 TB Th J Jx W L t := by
  induction t using T.ind with
  | h k n s la lc l da dc d ihl ihd =>
  intro ok hin pre A h hp
  obtain ⟨k0, k1, n0, n1, hs, hl1, hl2, hd1, hd2, okl, okd⟩ := ok.parts
  obtain ⟨inl, ind⟩ := hin.parts
  rw [T.val_mk, allW] at hp ⊢
  show Calls _ _ #[.agg #[.int .i64 k, .int .i64 n, .string s, .slice la l.length lc, .slice da d.length dc], _] _ _
  by_cases h4 : k = 4
  · rw [if_pos h4] at hp ⊢
    subst h4
    exact tellS_case TT hTB n s (by unfold okFar; omega) la lc l.length da dc d.length pre A h hp
  rw [if_neg h4] at hp ⊢
  by_cases h6 : k = 6
  · rw [if_pos h6] at hp ⊢
    subst h6
    exact tellL_case TT hw harg n s la lc l da dc d.length inl (by omega) (fun x hx => ihl x hx (okl x hx) (by obtain ⟨i, hi⟩ := List.mem_iff_getElem?.1 hx; exact (InL.elem inl hi).choose_spec.choose_spec.2.2)) pre A h hp
  rw [if_neg h6] at hp ⊢
  by_cases h5 : k = 5
  · rw [if_pos h5] at hp ⊢
    subst h5
    exact tellD_case TT hw harg n s da dc d la lc l.length ind (by omega) (fun x hx => ihd x hx (okd x hx).2 (by obtain ⟨i, hi⟩ := List.mem_iff_getElem?.1 hx; exact (InD.elem ind hi).choose_spec.choose_spec.2.2)) pre A h hp
  rw [if_neg h5]
  exact tellN_case TT k n h4 h5 h6 s la lc l.length da dc d.length _ pre A h
end
end Go.Proofs.Ytgcbcmhdlgklgaa
