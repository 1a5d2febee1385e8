/- The program's Append: on the way to what it writes. No statement is proved here. -/
import Derived.Test.YtophhnolnlbecaaDoorQ31
import Derived.Test.YtophhnolnlbecaaDoorQ14
namespace Go.Proofs.YtophhnolnlbecaaDoor
open Go.RowKit
set_option maxRecDepth 100000
attribute [local go_sem] Oper.semAt_some

set_option maxHeartbeats 16000000 in
theorem pappend_any {W : World} (F : List Nat) (a : Nat) (J : JS) (x : Option Addr) (n c : Nat) (l : List Int) (w : World) (lo N : Nat) (X : Nat → Prop) (d : Dk) (ht : Tab16 w) (hW : Below W.heap.size W w) (HJ : JnP W w F a J) (hJ : J.ok d) (hlo : W.heap.size ≤ lo) (hX : ∀ y, X y → y < w.heap.size) (hbx : BoxAt w ⟨lo, fun y => y ∈ F ∨ X y⟩ J.g d N) (hN : N + 8 * J.many ≤ 1099511627776) (hin : InB w x l) (hB : isB l) (hn : l.length = n) (hc : n ≤ c) (hcm : c ≤ maxLen) (hd : J.dead = false) (hr : (n : Int) ≤ J.room) :
    Calls Tryd.prog 22 #[.pointer (some ⟨a, 0, none⟩), .slice x n c] w fun en w' => en = .returned (errV (J.app l d).1) ∧ ∃ F', JnP W w' F' a (J.more l (J.app l d).1) ∧ (∀ b ∈ F', b ∈ F ∨ w.heap.size ≤ b) ∧ BoxAt w' ⟨lo, fun y => y ∈ F' ∨ X y⟩ J.g (J.app l d).2 (N + 8 * J.many) ∧ JTurns F W.heap.size w w' := by
  have HJJ := Lib.hid HJ
  obtain ⟨h, db, v, H⟩ := HJ
  have HA := Lib.hid (And.intro H (And.intro hbx (And.intro hJ (And.intro hd (And.intro hin hB)))))
  have HW := Lib.hid (And.intro hW (And.intro hX ht))
  have HS0 := Lib.hid (ApS.start a w)
  have HLO := Lib.hid hlo
  have hn5 := hJ.short (l := l) (by rw [hn]; exact hr)
  have hl := JS.len_ok hJ
  have hfew := hJ.few
  obtain ⟨av, cv, rfl, iv, nv, lv, mv⟩ := H.last.shape
  have hhas := lastL_has J.whole
  have hle := lastL_le J.whole
  obtain ⟨nl, hnl⟩ : ∃ nl, nl = (lastL J.whole).length := ⟨_, rfl⟩
  have HV := Lib.hid (And.intro iv (And.intro nv hnl))
  rw [← hnl] at hhas lv hle
  have hJl : J.whole.length = J.len := rfl
  rw [hJl] at hhas
  have hbl := begins_le J.len
  obtain ⟨p, hp⟩ : ∃ p, p = begins J.len := ⟨_, rfl⟩
  rw [← hp] at hhas hbl
  obtain ⟨R, hR⟩ : ∃ R, R = (strmR J.e J.rs l).drop (504 * jFst J.e J.rs) := ⟨_, rfl⟩
  have HRW := Lib.hid (show (lastL J.whole).take (p % 504) ++ jFrame J.e (J.rs.length : Int) l = R from by rw [hR, hp]; exact row_is J.e J.rs l)
  have HFL := Lib.hid (show (jFrame J.e (J.rs.length : Int) l).length = 20 + n by rw [jFrame_len, hn])
  have HRL := Lib.hid (show R.length = p % 504 + (20 + n) by rw [← HRW.out, List.length_append, List.length_take, HFL.out, ← hnl, Nat.min_eq_left hhas])
  have HRD := Lib.hid hR
  have HP := Lib.hid hp
  have e1 : (p : Int).tmod 504 = ((p % 504 : Nat) : Int) := by rw [Int.tmod_eq_emod_of_nonneg (by omega)]; omega
  have e2 : (p : Int).tdiv 504 = ((p / 504 : Nat) : Int) := by rw [Int.tdiv_eq_ediv_of_nonneg (by omega)]; omega
  obtain ⟨k, hk⟩ : ∃ k, k = p % 504 := ⟨_, rfl⟩
  obtain ⟨q0, hq0⟩ : ∃ q0, q0 = p / 504 := ⟨_, rfl⟩
  have HK := Lib.hid (And.intro hk hq0)
  have hk4 : k < 504 := by omega
  have hq4 : q0 ≤ 1000000 := by omega
  rw [← hk] at e1 hhas HRW HRL
  rw [← hq0] at e2
  have hfr : J.fr ≤ 65536 := by have := hJ.fits; have := hJ.small; omega
  have HH := Lib.hid (fun A (h1 : ApS a w A) => heard_good db A (by have := (H.then_ h1.below).box; rwa [hd] at this))
  have HRm := Lib.hid (fun A (h1 : ApS a w A) => proom_any (W := W) F a J A d ⟨h, db, _, H.then_ h1.below⟩ hJ)
  have HBG := Lib.hid (fun A => pbegin_any J.len (by omega) A)
  have HFr := Lib.hid (fun A (h1 : ApS a w A) => pframe_any J.e (J.rs.length : Int) x n c l A (tab16_onJ ht h1.below) (by have := hJ.ep; unfold jOk at this; unfold okInt; omega) (by unfold okInt; omega) (hin.then_ h1.below) hB hn (by omega))
  have hE0 : frE J.e (J.rs.length : Int) l.length = 0 := by
    have := hJ.ep
    unfold frE
    rw [if_neg (fun h => by
      rcases h with h | h | h
      · exact h this
      · omega
      · omega), if_neg (by omega)]
  unfold FrTo at HFr
  have hfl : frL J.e (J.rs.length : Int) l = jFrame J.e (J.rs.length : Int) l := by unfold frL; rw [if_pos hE0]
  rw [hE0, hfl] at HFr
  rw [← hp] at HBG
  have HC := Lib.hid (fun A (h1 : ApS a w A) => And.intro (H.then_ h1.below).c1 (And.intro (H.then_ h1.below).c3 (And.intro (H.then_ h1.below).c4 (And.intro (H.then_ h1.below).c5 (And.intro (H.then_ h1.below).c6 (And.intro (H.then_ h1.below).c7 (And.intro (row_cellJ h1.jb) (row_cellJ h1.ec))))))))
  have hfL : Fence.wide.fn 69 := trivial
  have hfR : Fence.wide.fn 21 := trivial
  have hfB : Fence.wide.fn 42 := trivial
  have hfC : Fence.wide.fn 49 := trivial
  have hfH : Fence.wide.fn 50 := trivial
  obtain ⟨d1, d3, d4, d5, d6, d7, ⟨dj, dj'⟩, de, de'⟩ := HC.out _ HS0.out
  refine (callsIn_wide (n := 8)).1 ?_
  refine callsIn_of_wp_marks Tryd.func22 rfl trivial ?_ rfl
  simp only [Tryd.ntmps22, List.size_toArray, List.length_cons, List.length_nil, Nat.reduceAdd, Nat.reduceSub, Array.replicate_succ, Array.replicate_zero, List.push_toArray, List.append_toArray, List.nil_append, List.cons_append]
  clear hR H hbx hJ hd hin hB hW hX ht HJJ hE0 hfl hp hk hq0 hnl iv nv hJl hlo
  generalize (lastL J.whole) = LW at *
  gi_wp2_with (first
    | (gi_at_call 69; refine (callsIn_wide.2 (HH.out _ HS0.out)).mono ?_; rintro en w2 ⟨rfl, rfl⟩)
    | (gi_at_call 21; refine (callsIn_wide.2 (HRm.out _ HS0.out)).mono ?_; rintro en w2 ⟨rfl, b2⟩; have S2 := Lib.hid (HS0.out.then_ b2); obtain ⟨d1, d3, d4, d5, d6, d7, ⟨dj, dj'⟩, de, de'⟩ := HC.out _ S2.out; clear b2))
  refine wpIn_wide.2 ?_
  go_region_held3 (fun w' => w'.cell? ⟨w.heap.size, 0, none⟩ = some (.pointer (some ⟨a, 0, none⟩)) ∧ w'.cell? ⟨a, 3, none⟩ = some (.int .i64 J.e) ∧ w'.cell? ⟨a, 4, none⟩ = some (.int .i64 (J.rs.length : Int)))
    (first
      | exact ⟨dj, d3, d4⟩
      | exact k6
      | go_keep)
    (first
      | (go_at_call 11; refine (HFr.out _ (S2.out.then_ (Below.refl _ _).drew)).mono ?_; rintro e w3 ⟨v3, rfl, o3, b3⟩; have S3 := Lib.hid ((S2.out.then_ (Below.refl _ _).drew).then_ b3); have hC3 := HC.out _ S3.out; have k6 := And.intro hC3.2.2.2.2.2.2.1.1 (And.intro hC3.2.1 hC3.2.2.1); have C3 := Lib.hid hC3; obtain ⟨g3, c3, e3, hc3⟩ := o3.form (by rw [jFrame_len]; omega); rw [HFL.out] at e3; subst e3; have O3 := Lib.hid (And.intro o3 (below_then ((S2.out.then_ (Below.refl _ _).drew).below) b3)); clear o3 b3 hC3))
  obtain ⟨d1, d3, d4, d5, d6, d7, ⟨dj, dj'⟩, de, de'⟩ := C3.out
  have HC4 := HC.out _ (S3.out.then_ (below1 w3 (.cells #[.int .i64 ((J.fr : Int) * 8 + (q0 : Int))] 3)))
  obtain ⟨f1, f3, f4, f5, f6, f7, ⟨fj, fj'⟩, fe, fe'⟩ := HC4
  have hrb := heap_alloc_at (w3.alloc (.cells #[.int .i64 ((J.fr : Int) * 8 + (q0 : Int))] 3)) (.cells #[.slice av k cv, .slice (some ⟨g3, 0, none⟩) (20 + n) c3] 22) (w3.heap.size + 1) (by simp)
  have HB4 := Lib.hid (below2 w3 (.cells #[.int .i64 ((J.fr : Int) * 8 + (q0 : Int))] 3) (.cells #[.slice av k cv, .slice (some ⟨g3, 0, none⟩) (20 + n) c3] 22))
  have HCon := Lib.hid (pconcat_any (w3.heap.size + 1) av (some ⟨g3, 0, none⟩) k cv (20 + n) c3 (LW.take k) (jFrame J.e (J.rs.length : Int) l) _ hrb ((HV.out.1.then_ (below_then S3.out.below HB4.out)).take_ k) (by rw [List.length_take, ← HV.out.2.2, Nat.min_eq_left hhas]) (fun e => by have := HV.out.2.1 e; rw [this.2]; exact ⟨this.1, by simp⟩) (O3.out.1.then_ HB4.out).inB HFL.out (fun e => by cases e) (by omega) (by omega))
  rw [HRW.out] at HCon
  clear hrb
  gi_wp2_with (first
    | (gi_at_call 42; refine (callsIn_wide.2 (HBG.out _)).mono ?_; rintro en w4 ⟨rfl, rfl⟩)
    | (gi_at_call 49; refine (callsIn_wide.2 HCon.out).mono ?_; rintro en w5 ⟨v5, rfl, o5, b5⟩; obtain ⟨g5, c5, e5, hc5⟩ := o5.form (by rw [HRL.out]; omega); rw [HRL.out] at e5 hc5; subst e5; have O5 := Lib.hid (And.intro o5 (below_then HB4.out b5)); have S5 := Lib.hid (S3.out.then_ (below_then HB4.out b5)); have N5 := Lib.hid (row_then (row_then (heap_alloc_new w3 (.cells #[.int .i64 ((J.fr : Int) * 8 + (q0 : Int))] 3)) (below1 _ (.cells #[.slice av k cv, .slice (some ⟨g3, 0, none⟩) (20 + n) c3] 22))) b5); clear o5 b5 HCon)
    | (gi_at_call 50; refine (callsIn_wide.2 (chunk_any (some ⟨g5, 0, none⟩) (k + (20 + n)) c5 504 (by omega) _)).mono ?_; rintro en W1 ⟨rfl, eW1⟩; have EW1 := Lib.hid eW1; clear eW1))
  obtain ⟨K, hK⟩ : ∃ K : ApC, K = { W := W, w := w, U := W1, F := F, X := X, a := a, h := h, db := db, v := .slice av LW.length cv, J := J, l := l, d := d, lo := lo, N := N, nb := w3.heap.size, lb := w5.heap.size, sb := w5.heap.size + 1, mb := w5.heap.size + 2, g := g5, rn := k + (20 + n), c := c5 } := ⟨_, rfl⟩
  have hq : q0 = jFst J.e J.rs := HK.out.2.trans (by rw [HP.out]; rfl)
  obtain ⟨O, I0⟩ := ap_start K hK HW.out.1 HA.out.1 HA.out.2.2.1 HLO.out HW.out.2.1 HA.out.2.1 hN HA.out.2.2.2.2.2 HA.out.2.2.2.1 (by rw [hn]; exact hr) HRD.out HRL.out S3.out O5.out.2 (by rw [← hq]; exact N5.out) (by have := (O5.out.1.block g5 rfl); simp at this; omega) (O5.out.1.base (by simp)) EW1.out
  have HO := Lib.hid O
  have HI0 := Lib.hid I0
  have hUW : K.U = W1 := by rw [hK]
  have hwW : K.w = w := by rw [hK]
  have hM : cuts 504 K.rn = K.M := by rw [← O.rlen]; exact row_cuts _ _ _
  have hrn : K.rn ≤ K.c ∧ K.rn ≤ 140737488351232 := by rw [hK]; dsimp only; omega
  clear hq O I0 d1 d3 d4 d5 d6 d7 dj dj' de de' f1 f3 f4 f5 f6 f7 fj fj' fe fe' HS0 S2 S3 C3 k6 HB4 HH HRm HBG HFr HC
  refine wp_eachT (by omega) (gf := 71) (lb := #[.pointer (some ⟨K.sb, 0, none⟩), .pointer (some ⟨K.mb, 0, none⟩)]) (by subst hK; rfl) (enters_of Tryd.func71 (by kernel_rfl) rfl) (chunk_each K.sb K.mb (some ⟨K.g, 0, none⟩) K.rn K.c 504 (by omega) (by omega) hrn.1 (by omega) (fun _ ad e => by injection e with e; subst e; rfl) (fun e => by cases e)) (fun _ => rfl)
    (ApI K) (fun cc A => cc = .ret ∧ ApF K A) (fun i A h => h.okc HO.out) (fun i A C h ht => h.turnsL HO.out (by rw [hUW]; exact ht)) (fun cc A C h ht => ⟨h.1, h.2.turnsL HO.out (by rw [hUW]; exact ht)⟩) HI0.out
    (fun T i => (T.setIfInBounds 71 (K.part i)).setIfInBounds 12 (K.part i)) ?assign ?body ?done ?stop
  case assign =>
    intro l1 i A K' hK'
    unfold encC
    have hK'' := Lib.hid hK'
    clear hK'
    gi_wp2
    refine hK''.out _ ?_
    unfold ApC.part
    subst hK
    simp only [List.setIfInBounds_toArray, List.set_cons_zero, List.set_cons_succ]
  case stop =>
    intro D cc A hD hI hdD
    obtain ⟨rfl, hF⟩ := hI
    have hF2 := hF.turnsL HO.out (turns_take (by rw [hUW]; exact hD) hdD)
    have hcell := (row_cellJ hF2.err).1
    have HEND := Lib.hid (hF2.end_ HO.out)
    clear hF hF2
    rw [hwW] at hcell
    gi_wp2
    refine ⟨by simp, .inl ⟨_, _, rfl, run_takeDeferred hdD, ?_⟩⟩
    refine ⟨_, append_res _ _ _ _ rfl hcell, ?_⟩
    subst hK
    exact ⟨rfl, HEND.out⟩
  case done =>
    intro D A hD hI hdD
    rw [hM] at hI
    have hv5 : K.v5 = .int .i64 ((p : Int) + (20 + (n : Int))) := by
      unfold ApC.v5
      subst hK
      dsimp only
      rw [← HP.out, hn]
      push_cast
      rfl
    have hv4 : K.v4 = .int .i64 ((J.rs.length : Int) + 1) := by
      unfold ApC.v4
      subst hK
      rfl
    obtain ⟨y1, y2, y3, y4, y5, y6, y7, y8⟩ := hI.walk HO.out
    obtain ⟨ad, nn, z1, z2, z3, z4⟩ := hI.last HO.out
    have HCl := Lib.hid (cloneJ_any ad nn nn (lastL (strmR K.J.e K.J.rs K.l)) _ z4 z2 (by omega))
    have H9 := Lib.hid (fun (w9 : World) (b9 : Below (K.A2 A).drew.heap.size (K.A2 A).drew w9) v' => hI.walk9 HO.out b9 v')
    have HE := Lib.hid (fun (w9 Z : World) v' (b9 : Below (K.A2 A).drew.heap.size (K.A2 A).drew w9) o9 hZ => hI.end_ (Z := Z) (v' := v') HO.out b9 o9 hZ)
    rw [z1] at y8 H9
    unfold ApC.A2 at y7 y8 HCl H9 HE
    rw [hv4] at y4 y5 y6 y7 y8 HCl H9 HE
    rw [hv5] at y7 y8 HCl H9 HE
    clear hI z1 z4 hv4 hv5
    subst hK
    dsimp only at y1 y2 y3 y4 y5 y6 y7 y8 z2 HCl H9 HE hUW
    gi_wp2
    refine wpIn_wide.2 ?_
    go_region_held3 (fun w' => w'.cell? ⟨w.heap.size, 0, none⟩ = some (.pointer (some ⟨a, 0, none⟩)) ∧ w'.cell? ⟨w5.heap.size, 0, none⟩ = some (.slice (some ad) nn nn))
      (first
        | exact ⟨y7, y8⟩
        | exact k9
        | exact k10
        | go_keep)
      (first
        | (go_at_call 53; refine HCl.out.mono ?_; rintro e w9 ⟨v9, rfl, o9, b9⟩; obtain ⟨a9, c9, e9, -⟩ := o9.shape; rw [z2] at e9; subst e9; obtain ⟨⟨u9, q1⟩, q2, q3, q4, q5, q6, q7, q8⟩ := H9.out w9 b9 (.slice a9 nn c9); have k9 := And.intro q3 q4; have k10 := And.intro q5 q6; have O9 := Lib.hid (And.intro o9 b9); clear q3 q4 q5 q6 o9 b9))
    subst hD
    obtain ⟨r1, r2, r3, r4⟩ := HE.out w9 _ (.slice a9 nn c9) O9.out.2 O9.out.1 rfl
    have hdZ := r3.2 _ _ hdD (.inr ⟨_, rfl⟩)
    have hTk := turns_take rfl hdZ
    have hcell := (row_cellJ (hTk.block _ _ r2 (TL_cells _ _ _))).1
    have HR := Lib.hid (And.intro r1 (r4 _ hTk))
    clear r1 r2 r3 r4 hTk q1 q2 k9 k10
    gi_wp2
    refine ⟨by simp, .inl ⟨_, _, rfl, run_takeDeferred hdZ, ?_⟩⟩
    refine ⟨_, append_res _ _ _ _ rfl hcell, ?_⟩
    exact ⟨by rw [HR.out.1]; rfl, HR.out.2⟩
  case body =>
    intro l1 i A hz hI hiM
    rw [hM] at hiM
    have HI := Lib.hid hI
    obtain ⟨di, hbx, hw⟩ := hI.box
    have HBX := Lib.hid (And.intro hbx hw)
    have HSt := Lib.hid (hI.stamp HO.out)
    have HDB := Lib.hid (hI.jat HO.out)
    have hH0 := hI.held HO.out
    have hat := HO.out.at_ok hiM
    have en1 : w.heap.size = K.w.heap.size := by rw [hK]
    have en2 : w3.heap.size = K.nb := by rw [hK]
    have en3 : w5.heap.size = K.lb := by rw [hK]
    simp only [List.setIfInBounds_toArray, List.set_cons_zero, List.set_cons_succ]
    rw [en1, en2, en3]
    unfold ApC.part
    clear hI hbx hw HI0 HW HA HRD HRW HRL HFL O3 O5 N5 HP HK S5 EW1 hUW hwW hM hK hrn en1 en2 en3
    gi_wp2
    by_cases hE : di.writeE (K.at_ i) (K.sec i) = 0
    · refine region_round (fun u => ApH K i u) (by kernel_rfl) (no_defer (by kernel_rfl)) (by rintro ⟨a, w, h⟩; exact h) hH0 (fun hHeld => ?_)
      refine wpAnyH_take (i := 0) (oi := { dst := some 72, op := _, type := _, pos := _, after := _, guard := none }) (v := .pointer (some ⟨K.a, 0, none⟩)) rfl (by kernel_rfl) (by kernel_rfl) (by kernel_rfl) (fun _ _ _ h => h) (Or.inl ⟨by rfl, fun u hS => by obtain ⟨s1, s2, s3, s4, s5⟩ := hS; go_simp⟩) hHeld ?_
      simp only [Act.put, List.setIfInBounds_toArray, List.set_cons_zero, List.set_cons_succ]
      refine wpAnyH_take (i := 1) (oi := { dst := some 73, op := _, type := _, pos := _, after := _, guard := none }) (v := .pointer (some ⟨K.a, 0, none⟩)) rfl (by kernel_rfl) (by kernel_rfl) (by kernel_rfl) (fun _ _ _ h => h) (Or.inl ⟨by rfl, fun u hS => by obtain ⟨s1, s2, s3, s4, s5⟩ := hS; go_simp⟩) hHeld ?_
      simp only [Act.put, List.setIfInBounds_toArray, List.set_cons_zero, List.set_cons_succ]
      refine wpAnyH_take (i := 2) (oi := { dst := some 74, op := _, type := _, pos := _, after := _, guard := none }) (v := .pointer (some ⟨K.a, 7, none⟩)) rfl (by kernel_rfl) (by kernel_rfl) (by kernel_rfl) (fun _ _ _ h => h) (Or.inl ⟨by rfl, fun u hS => by obtain ⟨s1, s2, s3, s4, s5⟩ := hS; go_simp⟩) hHeld ?_
      simp only [Act.put, List.setIfInBounds_toArray, List.set_cons_zero, List.set_cons_succ]
      refine wpAnyH_take (i := 3) (oi := { dst := some 75, op := _, type := _, pos := _, after := _, guard := none }) (v := .func (.func 69) #[] #[.pointer (some ⟨K.db, 0, none⟩)]) rfl (by kernel_rfl) (by kernel_rfl) (by kernel_rfl) (fun _ _ _ h => h) (Or.inl ⟨by rfl, fun u hS => by obtain ⟨s1, s2, s3, s4, s5⟩ := hS; go_simp⟩) hHeld ?_
      simp only [Act.put, List.setIfInBounds_toArray, List.set_cons_zero, List.set_cons_succ]
      refine wpAnyH_take (i := 4) (oi := { dst := some 76, op := _, type := _, pos := _, after := _, guard := none }) (v := .pointer (some ⟨K.a, 0, none⟩)) rfl (by kernel_rfl) (by kernel_rfl) (by kernel_rfl) (fun _ _ _ h => h) (Or.inl ⟨by rfl, fun u hS => by obtain ⟨s1, s2, s3, s4, s5⟩ := hS; go_simp⟩) hHeld ?_
      simp only [Act.put, List.setIfInBounds_toArray, List.set_cons_zero, List.set_cons_succ]
      refine wpAnyH_take (i := 5) (oi := { dst := some 77, op := _, type := _, pos := _, after := _, guard := none }) (v := .pointer (some ⟨K.a, 0, none⟩)) rfl (by kernel_rfl) (by kernel_rfl) (by kernel_rfl) (fun _ _ _ h => h) (Or.inl ⟨by rfl, fun u hS => by obtain ⟨s1, s2, s3, s4, s5⟩ := hS; go_simp⟩) hHeld ?_
      simp only [Act.put, List.setIfInBounds_toArray, List.set_cons_zero, List.set_cons_succ]
      refine wpAnyH_take (i := 6) (oi := { dst := some 78, op := _, type := _, pos := _, after := _, guard := none }) (v := .pointer (some ⟨K.a, 0, none⟩)) rfl (by kernel_rfl) (by kernel_rfl) (by kernel_rfl) (fun _ _ _ h => h) (Or.inl ⟨by rfl, fun u hS => by obtain ⟨s1, s2, s3, s4, s5⟩ := hS; go_simp⟩) hHeld ?_
      simp only [Act.put, List.setIfInBounds_toArray, List.set_cons_zero, List.set_cons_succ]
      refine wpAnyH_take (i := 7) (oi := { dst := some 79, op := _, type := _, pos := _, after := _, guard := none }) (v := .pointer (some ⟨K.h, 0, none⟩)) rfl (by kernel_rfl) (by kernel_rfl) (by kernel_rfl) (fun _ _ _ h => h) (Or.inl ⟨by rfl, fun u hS => by obtain ⟨s1, s2, s3, s4, s5⟩ := hS; go_simp⟩) hHeld ?_
      simp only [Act.put, List.setIfInBounds_toArray, List.set_cons_zero, List.set_cons_succ]
      refine wpAnyH_take (i := 8) (oi := { dst := some 80, op := _, type := _, pos := _, after := _, guard := none }) (v := .int .i64 (K.at_ i)) rfl (by kernel_rfl) (by kernel_rfl) (by kernel_rfl) (fun _ _ _ h => h) (Or.inl ⟨by rfl, fun u hS => by obtain ⟨s1, s2, s3, s4, s5⟩ := hS; go_simp⟩) hHeld ?_
      simp only [Act.put, List.setIfInBounds_toArray, List.set_cons_zero, List.set_cons_succ]
      refine wpAnyH_take (i := 9) (oi := { dst := some 81, op := _, type := _, pos := _, after := _, guard := none }) (v := .pointer (some ⟨K.a, 0, none⟩)) rfl (by kernel_rfl) (by kernel_rfl) (by kernel_rfl) (fun _ _ _ h => h) (Or.inl ⟨by rfl, fun u hS => by obtain ⟨s1, s2, s3, s4, s5⟩ := hS; go_simp⟩) hHeld ?_
      simp only [Act.put, List.setIfInBounds_toArray, List.set_cons_zero, List.set_cons_succ]
      refine wpAnyH_take (i := 10) (oi := { dst := some 82, op := _, type := _, pos := _, after := _, guard := none }) (v := .pointer (some ⟨K.a, 0, none⟩)) rfl (by kernel_rfl) (by kernel_rfl) (by kernel_rfl) (fun _ _ _ h => h) (Or.inl ⟨by rfl, fun u hS => by obtain ⟨s1, s2, s3, s4, s5⟩ := hS; go_simp⟩) hHeld ?_
      simp only [Act.put, List.setIfInBounds_toArray, List.set_cons_zero, List.set_cons_succ]
      refine wpAnyH_take (i := 11) (oi := { dst := some 83, op := _, type := _, pos := _, after := _, guard := none }) (v := .pointer (some ⟨K.a, 3, none⟩)) rfl (by kernel_rfl) (by kernel_rfl) (by kernel_rfl) (fun _ _ _ h => h) (Or.inl ⟨by rfl, fun u hS => by obtain ⟨s1, s2, s3, s4, s5⟩ := hS; go_simp⟩) hHeld ?_
      simp only [Act.put, List.setIfInBounds_toArray, List.set_cons_zero, List.set_cons_succ]
      refine wpAnyH_take (i := 12) (oi := { dst := some 84, op := _, type := _, pos := _, after := _, guard := none }) (v := .int .i64 K.J.e) rfl (by kernel_rfl) (by kernel_rfl) (by kernel_rfl) (fun _ _ _ h => h) (Or.inl ⟨by rfl, fun u hS => by obtain ⟨s1, s2, s3, s4, s5⟩ := hS; go_simp⟩) hHeld ?_
      simp only [Act.put, List.setIfInBounds_toArray, List.set_cons_zero, List.set_cons_succ]
      refine wpAnyH_take (i := 13) (oi := { dst := some 85, op := _, type := _, pos := _, after := _, guard := none }) (v := .slice (adAt (some ⟨K.g, 0, none⟩) (504 * i)) (min 504 (K.rn - 504 * i)) (min 504 (K.rn - 504 * i))) rfl (by kernel_rfl) (by kernel_rfl) (by kernel_rfl) (fun _ _ _ h => h) (Or.inl ⟨by rfl, fun u hS => by obtain ⟨s1, s2, s3, s4, s5⟩ := hS; go_simp⟩) hHeld ?_
      simp only [Act.put, List.setIfInBounds_toArray, List.set_cons_zero, List.set_cons_succ]
      refine wpAnyH_call (i := 14) (o := { dst := some 86, op := _, type := _, pos := _, after := _, guard := none }) (by kernel_rfl) rfl rfl 52 #[.int .i64 K.J.e, .slice (adAt (some ⟨K.g, 0, none⟩) (504 * i)) (min 504 (K.rn - 504 * i)) (min 504 (K.rn - 504 * i))] (by go_simp) ((HSt.out).mono ?_)
      rintro e w1 ⟨rfl, f1, b1⟩
      have H1 := Lib.hid (And.intro f1 b1)
      have hHeld := HI.out.heldB HO.out b1
      refine ⟨_, rfl, hHeld, ?_⟩
      simp only [Act.put, List.setIfInBounds_toArray, List.set_cons_zero, List.set_cons_succ]
      clear f1 b1
      have hwr := HI.out.writes HO.out hiM HBX.out.1 H1.out.2 H1.out.1
      rw [hE, errV_zero] at hwr
      refine wpAnyH_call (i := 15) (o := { dst := some 87, op := _, type := _, pos := _, after := _, guard := none }) (by kernel_rfl) rfl rfl 51 #[.pointer (some ⟨K.h, 0, none⟩), .int .i64 (K.at_ i), .slice (some ⟨A.heap.size, 0, none⟩) 512 512] (by go_simp) (hwr.mono ?_)
      rintro e w2 ⟨rfl, r2, t2⟩
      have H2 := Lib.hid (And.intro r2 t2)
      have hHeld := HI.out.heldC HO.out H1.out.2 t2
      refine ⟨_, rfl, hHeld, ?_⟩
      simp only [Act.put, List.setIfInBounds_toArray, List.set_cons_zero, List.set_cons_succ]
      clear r2 t2
      refine wpAnyH_call (i := 16) (o := { dst := some 88, op := _, type := _, pos := _, after := _, guard := none }) (by kernel_rfl) rfl rfl 69 #[.nilIface, .pointer (some ⟨K.db, 0, none⟩)] (by go_simp) ((heard_good K.db w2 (by have := ((HDB.out.then_ (drewB H1.out.2)).turns H2.out.2).box; rwa [HO.out.alive] at this)).mono ?_)
      rintro e w3 ⟨rfl, rfl⟩
      refine ⟨_, rfl, hHeld, ?_⟩
      simp only [Act.put, List.setIfInBounds_toArray, List.set_cons_zero, List.set_cons_succ]
      refine wpAnyH_take (i := 17) (oi := { dst := some 13, op := _, type := _, pos := _, after := _, guard := none }) (v := .nilIface) rfl (by kernel_rfl) (by kernel_rfl) (by kernel_rfl) (fun _ _ _ h => h) (Or.inl ⟨by rfl, fun u hS => by go_simp⟩) hHeld ?_
      simp only [Act.put, List.setIfInBounds_toArray, List.set_cons_zero, List.set_cons_succ]
      refine wpAnyH_done (by kernel_rfl) ?_ _
      obtain ⟨p1, p2, p3, p4, p5⟩ := hHeld
      obtain ⟨fz, ⟨u, cl⟩, fl⟩ := HI.out.cellsC HO.out H1.out.2 H2.out.2 (.int .i64 (K.at_ i + 1))
      have HN := Lib.hid (show ApI K (i + 1) ((w2.setCell ⟨K.nb, 0, none⟩ (.int .i64 (K.at_ i + 1))).setCell ⟨K.lb, 0, none⟩ (.slice (adAt (some ⟨K.g, 0, none⟩) (504 * i)) (min 504 (K.rn - 504 * i)) (min 504 (K.rn - 504 * i)))) ∧ Keeps A ((w2.setCell ⟨K.nb, 0, none⟩ (.int .i64 (K.at_ i + 1))).setCell ⟨K.lb, 0, none⟩ (.slice (adAt (some ⟨K.g, 0, none⟩) (504 * i)) (min 504 (K.rn - 504 * i)) (min 504 (K.rn - 504 * i)))) from HI.out.next HO.out hiM (drewB H1.out.2) H2.out.1 H2.out.2 HBX.out.2 hE rfl)
      obtain ⟨hat1, hat2, hat3⟩ := hat
      unfold okInt at hat1
      clear hH0 hE hwr p1 p2 p3 p4
      gi_wp2
      exact ⟨HN.out.2, HN.out.1⟩
    · refine region_round (fun u => ApH K i u) (by kernel_rfl) (no_defer (by kernel_rfl)) (by rintro ⟨a, w, h⟩; exact h) hH0 (fun hHeld => ?_)
      refine wpAnyH_take (i := 0) (oi := { dst := some 72, op := _, type := _, pos := _, after := _, guard := none }) (v := .pointer (some ⟨K.a, 0, none⟩)) rfl (by kernel_rfl) (by kernel_rfl) (by kernel_rfl) (fun _ _ _ h => h) (Or.inl ⟨by rfl, fun u hS => by obtain ⟨s1, s2, s3, s4, s5⟩ := hS; go_simp⟩) hHeld ?_
      simp only [Act.put, List.setIfInBounds_toArray, List.set_cons_zero, List.set_cons_succ]
      refine wpAnyH_take (i := 1) (oi := { dst := some 73, op := _, type := _, pos := _, after := _, guard := none }) (v := .pointer (some ⟨K.a, 0, none⟩)) rfl (by kernel_rfl) (by kernel_rfl) (by kernel_rfl) (fun _ _ _ h => h) (Or.inl ⟨by rfl, fun u hS => by obtain ⟨s1, s2, s3, s4, s5⟩ := hS; go_simp⟩) hHeld ?_
      simp only [Act.put, List.setIfInBounds_toArray, List.set_cons_zero, List.set_cons_succ]
      refine wpAnyH_take (i := 2) (oi := { dst := some 74, op := _, type := _, pos := _, after := _, guard := none }) (v := .pointer (some ⟨K.a, 7, none⟩)) rfl (by kernel_rfl) (by kernel_rfl) (by kernel_rfl) (fun _ _ _ h => h) (Or.inl ⟨by rfl, fun u hS => by obtain ⟨s1, s2, s3, s4, s5⟩ := hS; go_simp⟩) hHeld ?_
      simp only [Act.put, List.setIfInBounds_toArray, List.set_cons_zero, List.set_cons_succ]
      refine wpAnyH_take (i := 3) (oi := { dst := some 75, op := _, type := _, pos := _, after := _, guard := none }) (v := .func (.func 69) #[] #[.pointer (some ⟨K.db, 0, none⟩)]) rfl (by kernel_rfl) (by kernel_rfl) (by kernel_rfl) (fun _ _ _ h => h) (Or.inl ⟨by rfl, fun u hS => by obtain ⟨s1, s2, s3, s4, s5⟩ := hS; go_simp⟩) hHeld ?_
      simp only [Act.put, List.setIfInBounds_toArray, List.set_cons_zero, List.set_cons_succ]
      refine wpAnyH_take (i := 4) (oi := { dst := some 76, op := _, type := _, pos := _, after := _, guard := none }) (v := .pointer (some ⟨K.a, 0, none⟩)) rfl (by kernel_rfl) (by kernel_rfl) (by kernel_rfl) (fun _ _ _ h => h) (Or.inl ⟨by rfl, fun u hS => by obtain ⟨s1, s2, s3, s4, s5⟩ := hS; go_simp⟩) hHeld ?_
      simp only [Act.put, List.setIfInBounds_toArray, List.set_cons_zero, List.set_cons_succ]
      refine wpAnyH_take (i := 5) (oi := { dst := some 77, op := _, type := _, pos := _, after := _, guard := none }) (v := .pointer (some ⟨K.a, 0, none⟩)) rfl (by kernel_rfl) (by kernel_rfl) (by kernel_rfl) (fun _ _ _ h => h) (Or.inl ⟨by rfl, fun u hS => by obtain ⟨s1, s2, s3, s4, s5⟩ := hS; go_simp⟩) hHeld ?_
      simp only [Act.put, List.setIfInBounds_toArray, List.set_cons_zero, List.set_cons_succ]
      refine wpAnyH_take (i := 6) (oi := { dst := some 78, op := _, type := _, pos := _, after := _, guard := none }) (v := .pointer (some ⟨K.a, 0, none⟩)) rfl (by kernel_rfl) (by kernel_rfl) (by kernel_rfl) (fun _ _ _ h => h) (Or.inl ⟨by rfl, fun u hS => by obtain ⟨s1, s2, s3, s4, s5⟩ := hS; go_simp⟩) hHeld ?_
      simp only [Act.put, List.setIfInBounds_toArray, List.set_cons_zero, List.set_cons_succ]
      refine wpAnyH_take (i := 7) (oi := { dst := some 79, op := _, type := _, pos := _, after := _, guard := none }) (v := .pointer (some ⟨K.h, 0, none⟩)) rfl (by kernel_rfl) (by kernel_rfl) (by kernel_rfl) (fun _ _ _ h => h) (Or.inl ⟨by rfl, fun u hS => by obtain ⟨s1, s2, s3, s4, s5⟩ := hS; go_simp⟩) hHeld ?_
      simp only [Act.put, List.setIfInBounds_toArray, List.set_cons_zero, List.set_cons_succ]
      refine wpAnyH_take (i := 8) (oi := { dst := some 80, op := _, type := _, pos := _, after := _, guard := none }) (v := .int .i64 (K.at_ i)) rfl (by kernel_rfl) (by kernel_rfl) (by kernel_rfl) (fun _ _ _ h => h) (Or.inl ⟨by rfl, fun u hS => by obtain ⟨s1, s2, s3, s4, s5⟩ := hS; go_simp⟩) hHeld ?_
      simp only [Act.put, List.setIfInBounds_toArray, List.set_cons_zero, List.set_cons_succ]
      refine wpAnyH_take (i := 9) (oi := { dst := some 81, op := _, type := _, pos := _, after := _, guard := none }) (v := .pointer (some ⟨K.a, 0, none⟩)) rfl (by kernel_rfl) (by kernel_rfl) (by kernel_rfl) (fun _ _ _ h => h) (Or.inl ⟨by rfl, fun u hS => by obtain ⟨s1, s2, s3, s4, s5⟩ := hS; go_simp⟩) hHeld ?_
      simp only [Act.put, List.setIfInBounds_toArray, List.set_cons_zero, List.set_cons_succ]
      refine wpAnyH_take (i := 10) (oi := { dst := some 82, op := _, type := _, pos := _, after := _, guard := none }) (v := .pointer (some ⟨K.a, 0, none⟩)) rfl (by kernel_rfl) (by kernel_rfl) (by kernel_rfl) (fun _ _ _ h => h) (Or.inl ⟨by rfl, fun u hS => by obtain ⟨s1, s2, s3, s4, s5⟩ := hS; go_simp⟩) hHeld ?_
      simp only [Act.put, List.setIfInBounds_toArray, List.set_cons_zero, List.set_cons_succ]
      refine wpAnyH_take (i := 11) (oi := { dst := some 83, op := _, type := _, pos := _, after := _, guard := none }) (v := .pointer (some ⟨K.a, 3, none⟩)) rfl (by kernel_rfl) (by kernel_rfl) (by kernel_rfl) (fun _ _ _ h => h) (Or.inl ⟨by rfl, fun u hS => by obtain ⟨s1, s2, s3, s4, s5⟩ := hS; go_simp⟩) hHeld ?_
      simp only [Act.put, List.setIfInBounds_toArray, List.set_cons_zero, List.set_cons_succ]
      refine wpAnyH_take (i := 12) (oi := { dst := some 84, op := _, type := _, pos := _, after := _, guard := none }) (v := .int .i64 K.J.e) rfl (by kernel_rfl) (by kernel_rfl) (by kernel_rfl) (fun _ _ _ h => h) (Or.inl ⟨by rfl, fun u hS => by obtain ⟨s1, s2, s3, s4, s5⟩ := hS; go_simp⟩) hHeld ?_
      simp only [Act.put, List.setIfInBounds_toArray, List.set_cons_zero, List.set_cons_succ]
      refine wpAnyH_take (i := 13) (oi := { dst := some 85, op := _, type := _, pos := _, after := _, guard := none }) (v := .slice (adAt (some ⟨K.g, 0, none⟩) (504 * i)) (min 504 (K.rn - 504 * i)) (min 504 (K.rn - 504 * i))) rfl (by kernel_rfl) (by kernel_rfl) (by kernel_rfl) (fun _ _ _ h => h) (Or.inl ⟨by rfl, fun u hS => by obtain ⟨s1, s2, s3, s4, s5⟩ := hS; go_simp⟩) hHeld ?_
      simp only [Act.put, List.setIfInBounds_toArray, List.set_cons_zero, List.set_cons_succ]
      refine wpAnyH_call (i := 14) (o := { dst := some 86, op := _, type := _, pos := _, after := _, guard := none }) (by kernel_rfl) rfl rfl 52 #[.int .i64 K.J.e, .slice (adAt (some ⟨K.g, 0, none⟩) (504 * i)) (min 504 (K.rn - 504 * i)) (min 504 (K.rn - 504 * i))] (by go_simp) ((HSt.out).mono ?_)
      rintro e w1 ⟨rfl, f1, b1⟩
      have H1 := Lib.hid (And.intro f1 b1)
      have hHeld := HI.out.heldB HO.out b1
      refine ⟨_, rfl, hHeld, ?_⟩
      simp only [Act.put, List.setIfInBounds_toArray, List.set_cons_zero, List.set_cons_succ]
      clear f1 b1
      have hwr := HI.out.writes HO.out hiM HBX.out.1 H1.out.2 H1.out.1
      rw [errV_mk hE] at hwr
      refine wpAnyH_call (i := 15) (o := { dst := some 87, op := _, type := _, pos := _, after := _, guard := none }) (by kernel_rfl) rfl rfl 51 #[.pointer (some ⟨K.h, 0, none⟩), .int .i64 (K.at_ i), .slice (some ⟨A.heap.size, 0, none⟩) 512 512] (by go_simp) (hwr.mono ?_)
      rintro e w2 ⟨rfl, r2, t2⟩
      have H2 := Lib.hid (And.intro r2 t2)
      have hHeld := HI.out.heldC HO.out H1.out.2 t2
      refine ⟨_, rfl, hHeld, ?_⟩
      simp only [Act.put, List.setIfInBounds_toArray, List.set_cons_zero, List.set_cons_succ]
      clear r2 t2
      have hhb := heard_bad K.db _ hE w2 (by have := ((HDB.out.then_ (drewB H1.out.2)).turns H2.out.2).box; rwa [HO.out.alive] at this)
      rw [errV_mk hE] at hhb
      refine wpAnyH_call (i := 16) (o := { dst := some 88, op := _, type := _, pos := _, after := _, guard := none }) (by kernel_rfl) rfl rfl 69 #[.iface 25 (.int .i64 (di.writeE (K.at_ i) (K.sec i))), .pointer (some ⟨K.db, 0, none⟩)] (by go_simp) (hhb.mono ?_)
      rintro e w3 ⟨rfl, e3⟩
      subst e3
      have hHeld := HI.out.heldD HO.out H1.out.2 H2.out.2
      refine ⟨_, rfl, hHeld, ?_⟩
      simp only [Act.put, List.setIfInBounds_toArray, List.set_cons_zero, List.set_cons_succ]
      refine wpAnyH_take (i := 17) (oi := { dst := some 13, op := _, type := _, pos := _, after := _, guard := none }) (v := .iface 25 (.int .i64 (di.writeE (K.at_ i) (K.sec i)))) rfl (by kernel_rfl) (by kernel_rfl) (by kernel_rfl) (fun _ _ _ h => h) (Or.inl ⟨by rfl, fun u hS => by go_simp⟩) hHeld ?_
      simp only [Act.put, List.setIfInBounds_toArray, List.set_cons_zero, List.set_cons_succ]
      refine wpAnyH_done (by kernel_rfl) ?_ _
      obtain ⟨ce, fe⟩ := HI.out.cellsD HO.out H1.out.2 H2.out.2
      have hf := HI.out.fail HO.out hiM (drewB H1.out.2) H2.out.1 H2.out.2 HBX.out.2 hE rfl
      rw [show ((8 * K.J.fr + (jFst K.J.e K.J.rs + i) : Nat) : Int) = K.at_ i from rfl, errV_mk hE] at hf
      have HF := Lib.hid hf
      clear hH0 hE hwr hf hhb hHeld
      gi_wp2
      exact ⟨HF.out.2, rfl, HF.out.1⟩
end Go.Proofs.YtophhnolnlbecaaDoor
