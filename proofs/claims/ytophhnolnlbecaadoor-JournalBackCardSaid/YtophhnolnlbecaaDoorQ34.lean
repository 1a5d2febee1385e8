/- A frame laid into sectors. Five arguments. Arguments of layer 15: a bool, rows of bools, rows of rows of bytes; five, six, seven arguments. No statement is proved here. -/
import Derived.Test.YtophhnolnlbecaaDoorQ22
import Derived.Deep.CutRange
import Derived.Test.YtophhnolnlbecaaDoorQ20
import Derived.Carry
import Derived.Test.YtophhnolnlbecaaDoorQ33
import Derived.Test.YtophhnolnlbecaaDoorQ26
namespace Go.Proofs.YtophhnolnlbecaaDoor
open Go.RowKit
set_option maxRecDepth 100000

/-- A sector: a stamp's bytes, a part, zeros. -/
def stX (p f : List Int) (q : Nat) : List Int := p ++ ((f.drop (504 * q)).take 504 ++ List.replicate (512 - (p.length + ((f.drop (504 * q)).take 504).length)) 0)
theorem stX_len {p f : List Int} (hp : p.length ≤ 8) (q : Nat) : (stX p f q).length = 512 := by
  have : ((f.drop (504 * q)).take 504).length ≤ 504 := by rw [List.length_take]; omega
  unfold stX
  rw [List.length_append, List.length_append, List.length_replicate]
  omega
theorem stX_secL (e : Int) (f : List Int) (q : Nat) : stX (leB 8 e) f q = secL e f q := by
  unfold stX secL
  rw [leB_len, List.length_take, List.length_drop]
  congr 3
  omega
theorem stX_byte {p f : List Int} (hp : isB p) (hf : isB f) (q : Nat) : isB (stX p f q) := hp.append2 (((hf.drop _).take' _).append2 (fun x hx => by rw [(List.mem_replicate.1 hx).2]; omega))
theorem catF_byte {X : Nat → List Int} (h : ∀ q, isB (X q)) : ∀ n i, isB (catF X i n)
  | 0, i => isB.nil
  | n + 1, i => (h i).append2 (catF_byte h n (i + 1))
theorem catF_end (X : Nat → List Int) : ∀ n i, catF X i (n + 1) = catF X i n ++ X (i + n)
  | 0, i => by simp [catF]
  | n + 1, i => by
    rw [catF, catF_end X n (i + 1), catF]
    rw [List.append_assoc, show i + 1 + n = i + (n + 1) by omega]
def sliceN (v : Value) : Nat := match v with | .slice _ n _ => n | _ => 0
/-- The beginning of a row of bytes. -/
theorem run_slH (a : Option Addr) (n c j : Nat) (hi : Int) (hhi : hi = j) (hj : j ≤ c) (w : World) : (Instr.slice 22 (.slice a n c) none (some (.int .i64 hi)) none).run Tryd.prog w = .ok (.slice a j c) w := by
  subst hhi
  have e2 : (j : Int).toNat = j := by omega
  rw [run_slice_h w 22 _ _ _ (by kernel_rfl) .i64 _ (by omega) (by omega)]
  rw [show sizeOf (Tryd.prog.elem 22) = sizeOf 5 from rfl]
  cases a with
  | none => simp [go_sem, sliced, e2]
  | some ad => simp [go_sem, sliced, e2]
set_option maxHeartbeats 8000000 in
theorem stamped_any (e : Int) (he : okInt e) (la : Option Addr) (n c : Nat) (l : List Int) (w : World) (hin : InB w la l) (hn : l.length = n) (hc : n ≤ c) (hl : n ≤ 281474976) (hnil : la = none → c = 0) (hpl : ∀ ad, la = some ad → ad.spot = none) (hpE : (numL e 8).length ≤ 8) :
    Calls Tryd.prog 27 #[.int .i64 e, .slice la n c] w fun en w' => ∃ v, en = .returned v ∧ OwnB w' w.heap.size v (catF (stX (numL e 8) l) 0 ((n + 503) / 504)) ∧ Below w.heap.size w w' := by
  have HN := Lib.hid (fun w => refNumber_any e 8 he w)
  unfold NumTo at HN
  obtain ⟨p, hp⟩ : ∃ p, p = numL e 8 := ⟨_, rfl⟩
  rw [← hp] at HN hpE ⊢
  have HA := Lib.hid (And.intro hin (And.intro hn (And.intro hnil hpl)))
  obtain ⟨K, hK⟩ : ∃ K, K = (n + 503) / 504 := ⟨_, rfl⟩
  have hK1 : n ≤ 504 * K := by omega
  have hK2 : 504 * K < n + 504 := by omega
  rw [← hK]
  clear hin hn hnil hpl hp hK
  go_enter Tryd.func27, Tryd.ntmps27
  go_wp2_with fail
  go_loopw [1, 5] (fun f v wr => ∃ (q m c' : Nat) (a' : Option Addr), q ≤ K ∧ f = .slice a' m c' ∧ m + 504 * q = max n (504 * q) ∧ m ≤ c' ∧ (a' = none → c' = 0) ∧ (∀ ad, a' = some ad → ad.spot = none) ∧ Hid (InB w a' (l.drop (504 * q)) ∧ Grew w.heap.size w wr (.slice none 0 0) v (catF (stX p l) 0 q))) (fun f _ _ => sliceN f)
  case atStart => exact ⟨0, n, c, la, Nat.zero_le _, rfl, by omega, hc, HA.out.2.2.1, HA.out.2.2.2, Lib.hid ⟨by simpa using HA.out.1, Grew.refl (OwnB.nil _ _)⟩⟩
  case round =>
    obtain ⟨q, m, c', a', hq, rfl, hm, hmc, hnil', hpl', HK⟩ := hrel
    obtain ⟨wo, hwo⟩ : ∃ wo, wo = wr := ⟨_, rfl⟩
    subst hwo
    have HB := Lib.hid (HK.out.2.below (OwnB.nil _ _) (Below.refl w.heap.size w) (Nat.le_refl _) (Nat.le_refl _))
    have hcl : (catF (stX p l) 0 q).length = 512 * q := catF_len (fun i => stX_len hpE i) q 0
    by_cases hz : m = 0
    · have hqK : q = K := by omega
      subst hqK hz
      have HX := Lib.hid HK.out.2.own
      go_wp2_with fail
      go_ret
      exact ⟨_, rfl, HX.out, HB.out⟩
    have hm0 : (0 : Int) < (m : Int) := by omega
    have hqK : q < K := by omega
    have hml : (l.drop (504 * q)).length = m := by rw [List.length_drop, HA.out.2.1]; omega
    obtain ⟨t, ht⟩ : ∃ t, t = min m 504 := ⟨_, rfl⟩
    have ht1 : t ≤ m := by omega
    have ht5 : t ≤ 504 := by omega
    obtain ⟨a2, hsl, hia, hnil2, hpl2⟩ := run_slL a' m c' t (t : Int) rfl ht1 hmc hnil' hpl'
    have hslh := fun W => run_slH a' m c' t (t : Int) rfl (by omega) W
    obtain ⟨X, hX⟩ : ∃ X, X = (l.drop (504 * q)).take 504 := ⟨_, rfl⟩
    have HP0 : Hid (X.length = t ∧ (l.drop (504 * q)).take t = X ∧ stX p l q = p ++ (X ++ List.replicate (512 - (p.length + t)) 0)) := Lib.hid (by
      have e1 : X.length = t := by rw [hX, List.length_take, hml]; omega
      refine ⟨e1, ?_, by unfold stX; rw [← hX, e1]⟩
      rw [hX]
      by_cases h : m ≤ 504
      · rw [List.take_of_length_le (by omega : (l.drop (504 * q)).length ≤ t), List.take_of_length_le (by omega)]
      · rw [show t = 504 by omega])
    have HI := Lib.hid (And.intro (hia w _ HK.out.1 hml) (show InB w a' X by rw [← HP0.out.2.1]; exact HK.out.1.take_ t))
    have HNL := Lib.hid (show a' = none → c' = 0 ∧ X = [] from fun h => ⟨hnil' h, List.eq_nil_of_length_eq_zero (by rw [HP0.out.1]; have := hnil' h; omega)⟩)
    have hcat := Lib.hid (catF_end (stX p l) q 0)
    rw [Nat.zero_add] at hcat
    have HT := Lib.hid ht
    clear hX hia ht
    go_wp2_with fail
    refine (HN.out wo).mono ?_
    rintro en w2 ⟨v2, rfl, o2, b2⟩
    obtain ⟨ax, cx, rfl, -, -, -, -⟩ := o2.shape
    have O2 := Lib.hid (And.intro o2 b2)
    clear o2 b2
    go_upto_region 4 with fail
    go_cut [8] from 17 to 19 (fun v wx => v = .int .i64 (t : Int) ∧ wx = w2)
    case first =>
      go_wp2_with fail
      all_goals go_meet
      all_goals exact ⟨congrArg (Value.int .i64) (by have := HT.out; omega), rfl⟩
    case rest =>
      obtain ⟨rfl, rfl⟩ := hcut
      have hIX := Lib.hid (HI.out.2.then_ (below_then HB.out O2.out.2))
      go_wp2_with (show wpList _ _ _ (⟨some 24, _, _, _, _, _⟩ :: _) _ _; refine apR rfl (.tmp 20) (.tmp 23) rfl wo.heap.size _ p rfl O2.out.1 a' t c' X rfl HP0.out.1 hIX.out HNL.out (by omega) O2.out.2.size ?_; intro v3 w3 hg3; have B3 := Lib.hid (hg3.below O2.out.1 O2.out.2 (Nat.le_refl _) O2.out.2.size); have O3 := Lib.hid hg3.own; clear hg3; obtain ⟨a3, c3, rfl, -, -, -, -⟩ := O3.out.shape)
      obtain ⟨N0, hN0⟩ : ∃ N0, N0 = p.length + X.length := ⟨_, rfl⟩
      have hN1 : N0 ≤ 512 := by have := HP0.out.1; omega
      rw [← hN0]
      have HN0 := Lib.hid hN0
      have hb3 := B3.out.size
      clear hN0
      go_loopw [6] (fun x w5 => ∃ (j : Nat) (a5 : Option Addr) (c5 : Nat), j ≤ 512 - N0 ∧ x = .slice a5 (N0 + j) c5 ∧ Hid (OwnB w5 wo.heap.size (.slice a5 (N0 + j) c5) (p ++ (X ++ List.replicate j 0)) ∧ Below wo.heap.size wo w5)) (fun x _ => 512 - sliceN x)
      case atStart => exact ⟨0, a3, c3, Nat.zero_le _, rfl, Lib.hid ⟨by have h := O3.out; rw [← List.append_nil X, ← List.append_assoc] at h; rw [HN0.out]; simpa using h, B3.out⟩⟩
      case round =>
        obtain ⟨j, a5, c5, hj, rfl, H5⟩ := hrel
        have HL5 := Lib.hid (show (p ++ (X ++ List.replicate j 0)).length = N0 + j by rw [List.length_append, List.length_append, List.length_replicate, HN0.out]; omega)
        by_cases hlt : N0 + j < 512
        · have hlt2 : ((N0 + j : Nat) : Int) < 512 := by omega
          go_wp2_with (at_builtin; refine apL _ rfl (.tmp 31) (.tmp 32) rfl wo.heap.size _ _ rfl H5.out.1 [0] _ 1 1 rfl rfl rfl rfl (by rw [HL5.out]; omega) H5.out.2.size ?_; intro v6 w6 hg6; have B6 := Lib.hid (hg6.below H5.out.1 H5.out.2 (Nat.le_refl _) H5.out.2.size); have O6 := Lib.hid hg6.own; clear hg6; obtain ⟨a6, c6, e6, -, -, -, -⟩ := O6.out.shape; rw [List.length_append, HL5.out] at e6; subst e6)
          go_roundw
          case rel => exact ⟨j + 1, a6, c6, by omega, by simp [Nat.add_assoc], Lib.hid ⟨by have h := O6.out; rw [show p ++ (X ++ List.replicate (j + 1) 0) = (p ++ (X ++ List.replicate j 0)) ++ [0] by rw [List.replicate_succ']; simp only [List.append_assoc]]; simpa [Nat.add_assoc] using h, B6.out⟩⟩
          case measure => simp [sliceN]; omega
        · have hj5 : j = 512 - N0 := by omega
          have hlt2 : ¬ ((N0 + j : Nat) : Int) < 512 := by omega
          have HS := Lib.hid (show p ++ (X ++ List.replicate j 0) = stX p l q by rw [HP0.out.2.2, hj5, HN0.out, HP0.out.1])
          have hin5 := H5.out.1
          rw [HS.out, show N0 + j = 512 by omega] at hin5
          rw [show N0 + j = 512 by omega]
          obtain ⟨a7, c7, e7, i7, n7, -, -⟩ := hin5.shape
          injection e7 with e7 _ e8
          subst e7 e8
          have H7 := Lib.hid (And.intro i7 (And.intro n7 H5.out.2))
          have HO7 := Lib.hid (HK.out.2.own.then_ H5.out.2)
          have hsz7 := H5.out.2.size
          have hB7 := HB.out.size
          clear i7 n7 hin5 hlt2
          go_wp2_with (show wpList _ _ _ (⟨some 36, _, _, _, _, _⟩ :: _) _ _; refine apR rfl (.tmp 34) (.tmp 35) rfl w.heap.size _ _ rfl HO7.out a5 512 c5 (stX p l q) rfl (stX_len hpE q) H7.out.1 H7.out.2.1 (by rw [hcl]; omega) (Nat.le_trans hB7 hsz7) ?_; intro v8 w8 hg8; have G8 := Lib.hid (HK.out.2.trans (hg8.pre H7.out.2.2)); have hs8 := hg8.size; clear hg8)
          go_roundw
          case rel => exact ⟨q + 1, m - t, c' - t, a2, by omega, rfl, by have := HT.out; omega, by omega, hnil2, hpl2, Lib.hid ⟨by
            have h := HI.out.1
            have e1 : (l.drop (504 * q)).drop t = l.drop (504 * (q + 1)) := by
              rw [List.drop_drop]
              by_cases h5 : t = 504
              · rw [h5]
                rfl
              · have h6 := HT.out
                rw [List.drop_eq_nil_of_le (by rw [HA.out.2.1]; omega), List.drop_eq_nil_of_le (by rw [HA.out.2.1]; omega)]
            rw [e1] at h
            exact h, by rw [hcat.out]; exact G8.out⟩⟩
          case measure => simp [sliceN]; have := HT.out; omega
end Go.Proofs.YtophhnolnlbecaaDoor
namespace Go.Proofs.YtophhnolnlbecaaDoor
open Go.RowKit Go.ChangeShapes
section
variable {H : Type} {enc : TypeId × Value → H} {P : Program} {w : World} {base : Nat} {spare : Nat → Bool} {held : Bool}
theorem trodAll_five {t0 t1 t2 t3 t4 : TypeId} {args : Array Value} {ds : List (DataW H)} {ps : List MemPlace} (h : DataW.TrodAll enc P w base spare held [t0, t1, t2, t3, t4] args.toList ds ps) :
    ∃ v0 v1 v2 v3 v4 d0 d1 d2 d3 d4 p0 p1 p2 p3 p4, args = #[v0, v1, v2, v3, v4] ∧ ds = [d0, d1, d2, d3, d4] ∧ ps = p0 ++ (p1 ++ p2 ++ p3 ++ p4) ∧ DataW.Trod enc P w base spare held t0 v0 d0 p0 ∧ DataW.Trod enc P w base spare held t1 v1 d1 p1 ∧ DataW.Trod enc P w base spare held t2 v2 d2 p2 ∧ DataW.Trod enc P w base spare held t3 v3 d3 p3 ∧ DataW.Trod enc P w base spare held t4 v4 d4 p4 := by
  obtain ⟨v0, vs, d0, ds', p0, q, hargs, rfl, rfl, hd, hrest⟩ := trodAll_cons h
  obtain ⟨v1, v2, v3, v4, d1, d2, d3, d4, p1, p2, p3, p4, e1, rfl, rfl, h1, h2, h3, h4⟩ := trodAll_four (args := vs.toArray) hrest
  have e2 : vs = [v1, v2, v3, v4] := by have := congrArg Array.toList e1; simpa using this
  refine ⟨v0, v1, v2, v3, v4, d0, d1, d2, d3, d4, p0, p1, p2, p3, p4, ?_, rfl, rfl, hd, h1, h2, h3, h4⟩
  rw [e2] at hargs
  cases args
  simp_all
theorem trodAll_mk5 {t0 t1 t2 t3 t4 : TypeId} {v0 v1 v2 v3 v4 : Value} {d0 d1 d2 d3 d4 : DataW H} {p0 p1 p2 p3 p4 : List MemPlace} (h0 : DataW.Trod enc P w base spare held t0 v0 d0 p0) (h1 : DataW.Trod enc P w base spare held t1 v1 d1 p1)
    (h2 : DataW.Trod enc P w base spare held t2 v2 d2 p2) (h3 : DataW.Trod enc P w base spare held t3 v3 d3 p3) (h4 : DataW.Trod enc P w base spare held t4 v4 d4 p4) : DataW.TrodAll enc P w base spare held [t0, t1, t2, t3, t4] [v0, v1, v2, v3, v4] [d0, d1, d2, d3, d4] (p0 ++ (p1 ++ (p2 ++ (p3 ++ p4)))) := ⟨p0, _, h0, trodAll_mk4 h1 h2 h3 h4, rfl⟩
end
end Go.Proofs.YtophhnolnlbecaaDoor
namespace Go.Proofs.YtophhnolnlbecaaDoor
open Go.RowKit Go.ChangeShapes Go.WideShapes Go.ChangeAt Go.Shelf Go.Lib
set_option maxRecDepth 100000

theorem cells_bool : Tryd.prog.cellsOf 4 = 1 := by kernel_rfl
theorem bytes_bool : Tryd.prog.bytesOf 4 = 1 := by kernel_rfl
theorem cells_bytes : Tryd.prog.cellsOf 22 = 1 := by kernel_rfl
theorem cells_bools : Tryd.prog.cellsOf 56 = 1 := by kernel_rfl
section
variable {H : Type} {enc : TypeId × Value → H} {W : World}
theorem open_bool {r : Reach} {base : Nat} {v : Value} {d : DataW H} {p : List MemPlace} (hv : Value.okWide Tryd.prog W r base 4 v) (h : DataW.Trod enc Tryd.prog W 0 (fun _ => true) true 4 v d p) : ∃ b, v = .bool b := okWide_bool Tryd.underlying4 hv
theorem back_bool {W' : World} {v : Value} {d : DataW H} {p : List MemPlace} (h : DataW.Trod enc Tryd.prog W 0 (fun _ => true) true 4 v d p) (hb : Below W.heap.size W W') (hlt : ∀ x ∈ p, x.block < W.heap.size) :
    DataW.Trod enc Tryd.prog W' 0 (fun b => decide (b < W.heap.size)) true 4 v d p :=
  Below.trod laid_out (by kernel_rfl) (of_decide_eq_true (by kernel_rfl)) h hb hlt
theorem open_boolsL {cs : List Value} {y : DataW H × List MemPlace} {held : Bool} (n : Nat) (h3 : DataW.trod enc Tryd.prog W 0 (fun _ => true) held n 56 cs = some y) (w3 : reached (y.1.weights Tryd.prog 56)) :
    ∃ la lc l, cs = [.slice la (l : List Bool).length lc] ∧ InK W W.heap.size la l ∧ (l.length ≤ lc ∧ lc ≤ 140737488351232) ∧ (la = none → lc = 0) := by
  rcases DataW.trod_slice Tryd.underlying56 h3 with ⟨hc, -⟩ | ⟨a, len, cap, elems, rest, n2, rfl, hc, hx, -, hl, -, hel, hi, hsp, -⟩
  · exact ⟨none, 0, [], hc, fun i x hx => by simp at hx, by simp, by simp⟩
  · have e3 := congrArg Prod.fst (Option.some.inj (Eq.symm (show some (_ : DataW H × List MemPlace) = some y from (congrArg some hx.symm))))
    simp only at e3
    rw [e3] at w3
    simp only [DataW.weights, Tryd.underlying56, reached_cons, reached_append] at w3
    obtain ⟨wc, we, -⟩ := w3
    have hcap : okLen (cap * 1) := by
      have := (hsp rfl).1
      simp only [List.length_map, hel, this, bytes_bool] at wc
      rw [show len + (cap - len) = cap by omega] at wc
      exact wc
    obtain ⟨l, hll, hin, -⟩ := in_row (W := W) (a := a) (n := len) (Q := fun _ : Bool => True) (f := Value.bool) (fun i hil => by
      have e := hi i hil
      have hg : elems[i]? = some (elems[i]'(by omega)) := List.getElem?_eq_getElem (by omega)
      rw [hg, Option.bind_eq_some_iff] at e
      obtain ⟨cs', hcs, ht⟩ := e
      rw [cells_bool] at hcs
      obtain ⟨_, hcl, hat⟩ := World.cells?_some hcs
      obtain ⟨x, e0, -⟩ := DataW.trod_bool Tryd.underlying4 ht
      have h2 := hat 0 (by omega)
      rw [e0] at h2
      exact ⟨x, by simpa [Addr.add] using h2, trivial⟩)
    refine ⟨some a, cap, l, by rw [hc, hll], fun i x hx => ?_, by unfold okLen at hcap; omega, by simp⟩
    obtain ⟨b, o, e, hc2⟩ := hin i x hx
    exact ⟨b, o, e, cell_lt hc2, hc2⟩
theorem open_bools {r : Reach} {base : Nat} {v : Value} {d : DataW H} {p : List MemPlace} (hv : Value.okWide Tryd.prog W r base 56 v) (h : DataW.Trod enc Tryd.prog W 0 (fun _ => true) true 56 v d p) (hw : reached (d.weights Tryd.prog 56)) :
    ∃ la lc l, v = .slice la (l : List Bool).length lc ∧ InK W W.heap.size la l ∧ (l.length ≤ lc ∧ lc ≤ 140737488351232) ∧ (la = none → lc = 0) := by
  obtain ⟨fuel, hf⟩ := h
  obtain ⟨la, lc, l, hc, h1⟩ := open_boolsL fuel hf hw
  obtain ⟨a, n, c, rfl⟩ := okWide_slice Tryd.underlying56 hv
  refine ⟨la, lc, l, ?_, h1⟩
  simpa [Value.cells] using hc
theorem back_bools {W' : World} {v : Value} {d : DataW H} {p : List MemPlace} (h : DataW.Trod enc Tryd.prog W 0 (fun _ => true) true 56 v d p) (hb : Below W.heap.size W W') (hlt : ∀ x ∈ p, x.block < W.heap.size) :
    DataW.Trod enc Tryd.prog W' 0 (fun b => decide (b < W.heap.size)) true 56 v d p :=
  Below.trod laid_out (by kernel_rfl) (of_decide_eq_true (by kernel_rfl)) h hb hlt
theorem reached_each {e : TypeId} {ds : List (DataW H)} (h : reached (DataW.weightsAll Tryd.prog e ds)) : ∀ d ∈ ds, reached (d.weights Tryd.prog e) := by
  induction ds with
  | nil => simp
  | cons d r ih =>
    rw [DataW.weightsAll, reached_append] at h
    intro x hx
    rcases List.mem_cons.1 hx with rfl | hx
    · exact h.1
    · exact ih h.2 x hx
theorem bytes_row : Tryd.prog.bytesOf 22 = 24 := by kernel_rfl
theorem in_rows {a : Addr} {n : Nat} (h : ∀ i, i < n → ∃ (l : List Int) (ax : Option Addr) (cx : Nat), W.cell? (a.add i) = some (.slice ax l.length cx) ∧ InB W ax l ∧ (ax = none → cx = 0 ∧ l = []) ∧ l.length ≤ cx ∧ cx ≤ maxLen ∧ isB l) : ∃ ls : List (List Int), ls.length = n ∧ InRR W (some a) ls := by
  obtain ⟨ls, hl, hq⟩ := pick h
  refine ⟨ls, hl, fun i l e => ?_⟩
  obtain ⟨ax, cx, h1, h2⟩ := hq i l e
  have hs : a.spot = none := by
    obtain ⟨ax0, cx0, h0, -⟩ := hq 0 (ls[0]'(by have := lt_of_get e; omega)) (List.getElem?_eq_getElem _)
    exact spot_none (a := a) (by simpa [Addr.add] using h0)
  rw [add_plain hs] at h1
  refine ⟨a.block, a.off, ax, cx, ?_, h1, h2⟩
  obtain ⟨b, o, sp⟩ := a
  dsimp only at hs
  rw [hs]
theorem open_rows {r : Reach} {base : Nat} {v : Value} {d : DataW H} {p : List MemPlace} (hv : Value.okWide Tryd.prog W r base 30 v) (h : DataW.Trod enc Tryd.prog W 0 (fun _ => true) true 30 v d p) (hw : reached (d.weights Tryd.prog 30)) :
    ∃ la lc l, v = .slice la (l : List (List Int)).length lc ∧ InRR W la l ∧ (l.length ≤ lc ∧ lc ≤ 140737488351232) := by
  obtain ⟨fuel, hf⟩ := h
  obtain ⟨a, n, c, rfl⟩ := okWide_slice Tryd.underlying30 hv
  rcases DataW.trod_slice Tryd.underlying30 hf with ⟨hc, hd⟩ | ⟨a, len, cap, elems, rest, n2, rfl, hc, hx, -, hl, -, hel, hi, hsp, -⟩
  · exact ⟨none, 0, [], by simpa [Value.cells] using hc, fun i x hx => by simp at hx, by simp⟩
  · have e3 := congrArg Prod.fst (Option.some.inj (Eq.symm (show some (_ : DataW H × List MemPlace) = some (d, p) from (congrArg some hx.symm))))
    simp only at e3
    rw [e3] at hw
    simp only [DataW.weights, Tryd.underlying30, reached_cons, reached_append] at hw
    obtain ⟨wc, we, -⟩ := hw
    have hcap : okLen (cap * 24) := by
      have := (hsp rfl).1
      simp only [List.length_map, hel, this, bytes_row] at wc
      rw [show len + (cap - len) = cap by omega] at wc
      exact wc
    obtain ⟨l, hll, hin⟩ := in_rows (W := W) (a := a) (n := len) (fun i hil => by
      have e := hi i hil
      have hg : elems[i]? = some (elems[i]'(by omega)) := List.getElem?_eq_getElem (by omega)
      rw [hg, Option.bind_eq_some_iff] at e
      obtain ⟨cs', hcs, ht⟩ := e
      rw [cells_bytes] at hcs
      obtain ⟨_, hcl, hat⟩ := World.cells?_some hcs
      obtain ⟨la, lc, l, e0, h1, h2, h3, h4⟩ := open_bytesL _ ht (reached_each we _ (List.mem_map.2 ⟨elems[i]'(by omega), List.getElem_mem _, rfl⟩))
      have h5 := hat 0 (by omega)
      rw [e0] at h5
      exact ⟨l, la, lc, by simpa [Addr.add] using h5, h1, fun e => ⟨h4 e, List.eq_nil_of_length_eq_zero (by have := h4 e; omega)⟩, h3.1, by have := h3.2; unfold maxLen; omega, h2⟩)
    refine ⟨some a, cap, l, ?_, hin, ?_⟩
    · simp [Value.cells] at hc
      rw [hll]
      simpa using hc
    · unfold okLen at hcap
      omega
theorem back_rows {W' : World} {v : Value} {d : DataW H} {p : List MemPlace} (h : DataW.Trod enc Tryd.prog W 0 (fun _ => true) true 30 v d p) (hb : Below W.heap.size W W') (hlt : ∀ x ∈ p, x.block < W.heap.size) :
    DataW.Trod enc Tryd.prog W' 0 (fun b => decide (b < W.heap.size)) true 30 v d p :=
  Below.trod laid_out (by kernel_rfl) (of_decide_eq_true (by kernel_rfl)) h hb hlt
theorem trodAll_six {P : Program} {w : World} {base : Nat} {spare : Nat → Bool} {held : Bool} {t0 t1 t2 t3 t4 t5 : TypeId} {args : Array Value} {ds : List (DataW H)} {ps : List MemPlace} (h : DataW.TrodAll enc P w base spare held [t0, t1, t2, t3, t4, t5] args.toList ds ps) :
    ∃ v0 v1 v2 v3 v4 v5 d0 d1 d2 d3 d4 d5 p0 p1 p2 p3 p4 p5, args = #[v0, v1, v2, v3, v4, v5] ∧ ds = [d0, d1, d2, d3, d4, d5] ∧ ps = p0 ++ (p1 ++ (p2 ++ p3 ++ p4 ++ p5)) ∧ DataW.Trod enc P w base spare held t0 v0 d0 p0 ∧ DataW.Trod enc P w base spare held t1 v1 d1 p1 ∧ DataW.Trod enc P w base spare held t2 v2 d2 p2 ∧ DataW.Trod enc P w base spare held t3 v3 d3 p3 ∧ DataW.Trod enc P w base spare held t4 v4 d4 p4 ∧ DataW.Trod enc P w base spare held t5 v5 d5 p5 := by
  obtain ⟨v0, vs, d0, ds', p0, q, hargs, rfl, rfl, hd, hrest⟩ := trodAll_cons h
  obtain ⟨v1, us, d1, ds2, p1, q2, hargs2, rfl, rfl, hd1, hrest2⟩ := trodAll_cons hrest
  obtain ⟨v2, v3, v4, v5, d2, d3, d4, d5, p2, p3, p4, p5, e1, rfl, rfl, h2, h3, h4, h5⟩ := trodAll_four (args := us.toArray) hrest2
  have e2 : us = [v2, v3, v4, v5] := by have := congrArg Array.toList e1; simpa using this
  have e3 : vs = v1 :: us := hargs2
  refine ⟨v0, v1, v2, v3, v4, v5, d0, d1, d2, d3, d4, d5, p0, p1, p2, p3, p4, p5, ?_, rfl, rfl, hd, hd1, h2, h3, h4, h5⟩
  rw [e3, e2] at hargs
  cases args
  simp_all
theorem trodAll_mk6 {P : Program} {w : World} {base : Nat} {spare : Nat → Bool} {held : Bool} {t0 t1 t2 t3 t4 t5 : TypeId} {v0 v1 v2 v3 v4 v5 : Value} {d0 d1 d2 d3 d4 d5 : DataW H} {p0 p1 p2 p3 p4 p5 : List MemPlace} (h0 : DataW.Trod enc P w base spare held t0 v0 d0 p0) (h1 : DataW.Trod enc P w base spare held t1 v1 d1 p1)
    (h2 : DataW.Trod enc P w base spare held t2 v2 d2 p2) (h3 : DataW.Trod enc P w base spare held t3 v3 d3 p3) (h4 : DataW.Trod enc P w base spare held t4 v4 d4 p4) (h5 : DataW.Trod enc P w base spare held t5 v5 d5 p5) : DataW.TrodAll enc P w base spare held [t0, t1, t2, t3, t4, t5] [v0, v1, v2, v3, v4, v5] [d0, d1, d2, d3, d4, d5] (p0 ++ (p1 ++ (p2 ++ (p3 ++ (p4 ++ p5))))) := ⟨p0, _, h0, ⟨p1, _, h1, trodAll_mk4 h2 h3 h4 h5, rfl⟩, rfl⟩
theorem trodAll_seven {P : Program} {w : World} {base : Nat} {spare : Nat → Bool} {held : Bool} {t0 t1 t2 t3 t4 t5 t6 : TypeId} {args : Array Value} {ds : List (DataW H)} {ps : List MemPlace} (h : DataW.TrodAll enc P w base spare held [t0, t1, t2, t3, t4, t5, t6] args.toList ds ps) :
    ∃ v0 v1 v2 v3 v4 v5 v6 d0 d1 d2 d3 d4 d5 d6 p0 p1 p2 p3 p4 p5 p6, args = #[v0, v1, v2, v3, v4, v5, v6] ∧ ds = [d0, d1, d2, d3, d4, d5, d6] ∧ ps = p0 ++ (p1 ++ (p2 ++ (p3 ++ p4 ++ p5 ++ p6))) ∧ DataW.Trod enc P w base spare held t0 v0 d0 p0 ∧ DataW.Trod enc P w base spare held t1 v1 d1 p1 ∧ DataW.Trod enc P w base spare held t2 v2 d2 p2 ∧ DataW.Trod enc P w base spare held t3 v3 d3 p3 ∧ DataW.Trod enc P w base spare held t4 v4 d4 p4 ∧ DataW.Trod enc P w base spare held t5 v5 d5 p5 ∧ DataW.Trod enc P w base spare held t6 v6 d6 p6 := by
  obtain ⟨v0, vs, d0, ds', p0, q, hargs, rfl, rfl, hd, hrest⟩ := trodAll_cons h
  obtain ⟨v1, v2, v3, v4, v5, v6, d1, d2, d3, d4, d5, d6, p1, p2, p3, p4, p5, p6, e1, rfl, rfl, h1, h2, h3, h4, h5, h6⟩ := trodAll_six (args := vs.toArray) hrest
  have e2 : vs = [v1, v2, v3, v4, v5, v6] := by have := congrArg Array.toList e1; simpa using this
  refine ⟨v0, v1, v2, v3, v4, v5, v6, d0, d1, d2, d3, d4, d5, d6, p0, p1, p2, p3, p4, p5, p6, ?_, rfl, rfl, hd, h1, h2, h3, h4, h5, h6⟩
  rw [e2] at hargs
  cases args
  simp_all
theorem trodAll_mk7 {P : Program} {w : World} {base : Nat} {spare : Nat → Bool} {held : Bool} {t0 t1 t2 t3 t4 t5 t6 : TypeId} {v0 v1 v2 v3 v4 v5 v6 : Value} {d0 d1 d2 d3 d4 d5 d6 : DataW H} {p0 p1 p2 p3 p4 p5 p6 : List MemPlace} (h0 : DataW.Trod enc P w base spare held t0 v0 d0 p0) (h1 : DataW.Trod enc P w base spare held t1 v1 d1 p1)
    (h2 : DataW.Trod enc P w base spare held t2 v2 d2 p2) (h3 : DataW.Trod enc P w base spare held t3 v3 d3 p3) (h4 : DataW.Trod enc P w base spare held t4 v4 d4 p4) (h5 : DataW.Trod enc P w base spare held t5 v5 d5 p5) (h6 : DataW.Trod enc P w base spare held t6 v6 d6 p6) : DataW.TrodAll enc P w base spare held [t0, t1, t2, t3, t4, t5, t6] [v0, v1, v2, v3, v4, v5, v6] [d0, d1, d2, d3, d4, d5, d6] (p0 ++ (p1 ++ (p2 ++ (p3 ++ (p4 ++ (p5 ++ p6)))))) := ⟨p0, _, h0, trodAll_mk6 h1 h2 h3 h4 h5 h6, rfl⟩
end
end Go.Proofs.YtophhnolnlbecaaDoor
