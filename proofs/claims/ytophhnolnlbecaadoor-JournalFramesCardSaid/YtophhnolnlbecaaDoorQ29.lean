/- What a scan finds are bytes; a stream ends where a sector bears another stamp. The program's Read of a journal. slices.Concat of two rows of bytes, slices.Grow, bytes.Clone. No statement is proved here. -/
import Derived.Test.YtophhnolnlbecaaDoorQ10
import Derived.Test.YtophhnolnlbecaaDoorJPr6
import Derived.Test.YtophhnolnlbecaaDoorJPr9
import Derived.Test.YtophhnolnlbecaaDoorQ26
import Derived.Lib.AppendZeros
import Derived.Lib.Walk
namespace Go.Proofs.YtophhnolnlbecaaDoor
open Go.RowKit
set_option maxRecDepth 100000

theorem scanF_byte {s : List Int} {e : Int} (hs : isB s) : ∀ (f k p : Nat), ∀ r ∈ (scanF s e f k p).1, isB r
  | 0, _, _, r, hr => by unfold scanF at hr; cases hr
  | f + 1, k, p, r, hr => by
    unfold scanF at hr
    split at hr
    · cases hr
    · split at hr
      · cases hr
      · rcases List.mem_cons.1 hr with hr | hr
        · rw [hr]
          exact (hs.drop _).take' _
        · exact scanF_byte hs f _ _ r hr
theorem scanN_byte {s : List Int} {e : Int} (hs : isB s) : ∀ r ∈ (scanN s e).1, isB r := fun r hr => by
  unfold scanN at hr
  split at hr
  · exact scanF_byte hs _ _ _ r hr
  · cases hr
theorem streamN_byte {e : Int} : ∀ (n : Nat) (l : List Int), isB l → isB (streamN e n l)
  | 0, _, _ => by unfold streamN; exact isB.nil
  | n + 1, l, hl => by
    unfold streamN
    split
    · exact isB.nil
    · split
      · exact ((hl.drop _).take' _).append2 (streamN_byte n _ (hl.drop _))
      · exact isB.nil
/-- The stream of the sectors ahead of the first that bears another stamp is the stream of all. -/
theorem stream_some {X : Nat → List Int} (hX : ∀ i, (X i).length = 512) {e : Int} {n k : Nat} (hk : k ≤ n) (hs : ∀ q, q < k → stampIs (X q) e) (hend : k = n ∨ ¬ stampIs (X k) e) : streamN e k (catF X 0 k) = streamN e n (catF X 0 n) := by
  obtain ⟨K1, h1, e1, s1, t1⟩ := stream_cat hX e k 0
  obtain ⟨K2, h2, e2, s2, t2⟩ := stream_cat hX e n 0
  rw [e1, e2]
  congr 1
  have a1 : K1 = k := by
    rcases t1 with h | h
    · exact h
    · rcases Nat.lt_or_ge K1 k with hlt | hge
      · rw [Nat.zero_add] at h
        exact absurd (hs K1 hlt) h
      · omega
  have a2 : K2 = k := by
    rcases Nat.lt_trichotomy K2 k with hlt | heq | hgt
    · rcases t2 with h | h
      · omega
      · rw [Nat.zero_add] at h
        exact absurd (hs K2 hlt) h
    · exact heq
    · rcases hend with h | h
      · omega
      · have := s2 k hgt
        rw [Nat.zero_add] at this
        exact absurd this h
  rw [a1, a2]
end Go.Proofs.YtophhnolnlbecaaDoor
namespace Go.Proofs.YtophhnolnlbecaaDoor
open Go.RowKit
set_option maxRecDepth 100000

def RdP (d : Dk) (fr many e : Int) (w : World) (en : Ending) (w' : World) : Prop := ∃ v rs, en = .returned (.tuple #[v, errV (jRdE d fr many e)]) ∧ rs.map Prod.snd = jRdL d fr many e ∧ (∀ p ∈ rs, isB p.2) ∧ OwnRO w' w.heap.size v rs ∧ Below w.heap.size w w'
theorem RdP.bad {d : Dk} {fr many e : Int} {w w' : World} {k : Int} (h : jRdE d fr many e = k) (hk : k ≠ 0) (hb : Below w.heap.size w w') : RdP d fr many e w (.returned (.tuple #[.slice none 0 0, .iface 25 (.int .i64 k)])) w' :=
  ⟨_, [], by rw [h, errV_mk hk], by unfold jRdL; rw [h, if_neg hk]; rfl, fun p hp => (by cases hp), (OwnRR.nil _ _).o, hb⟩
theorem RdP.good {d : Dk} {F M : Nat} {e : Int} {w w1 w2 : World} {k : Nat} (h : jRdE d F M e = 0) (hok : d.ok) (hby : d.byte) (hk : k ≤ 8 * M) (hs : ∀ q, q < k → stampIs (d.look (8 * F + q)) e) (hend : k = 8 * M ∨ ¬ stampIs (d.look (8 * F + k)) e) (hb : Below w.heap.size w w1)
    {en : Ending} (hsc : ScP (catF (fun q => d.look (8 * F + q)) 0 k) e w1 en w2) : ∃ v p, en = .returned (.tuple #[v, p]) ∧ RdP d F M e w (.returned (.tuple #[v, .nilIface])) w2 := by
  obtain ⟨v, rs, e1, e2, o, b⟩ := hsc
  have hX : ∀ i, ((fun q => d.look (8 * F + q)) i).length = 512 := fun i => hok.look_len _
  have hl : (catF (fun q => d.look (8 * F + q)) 0 k).length / 512 = k := by rw [catF_len hX]; omega
  rw [hl, stream_some hX hk hs hend] at e1 e2
  have e3 : rs.map Prod.snd = jRdL d F M e := by
    unfold jRdL jArea
    rw [if_pos h, e2, Int.toNat_natCast, Int.toNat_natCast]
  have hcb : ∀ (n i : Nat), isB (catF (fun q => d.look (8 * F + q)) i n) := fun n => by
    induction n with
    | zero => exact fun i => isB.nil
    | succ n ih => exact fun i => (hby _).append2 (ih _)
  refine ⟨v, _, e1, v, rs, by rw [h]; rfl, e3, fun p hp => ?_, o.base hb.size, below_then hb b⟩
  refine scanN_byte (e := e) (streamN_byte (e := e) (8 * M) _ (hcb (8 * M) 0)) p.2 ?_
  rw [← e2]
  exact List.mem_map_of_mem hp
set_option maxHeartbeats 8000000 in
theorem pread15_any (h g : Nat) (fr many e : Int) (w : World) (B : Base) (N : Nat) (d : Dk) (ht : Tab16 w) (hh : w.heap[h]? = some (.cells #[.pointer (some ⟨g, 0, none⟩)] 86)) (hb : BoxAt w B g d N) (hby : d.byte) (hm : d.many ≤ 524288) (h1 : okInt fr) (h2 : okInt many) (h3 : okInt e) :
    Calls Tryd.prog 25 #[.pointer (some ⟨h, 0, none⟩), .int .i64 fr, .int .i64 many, .int .i64 e] w (RdP d fr many e w) := by
  have HM := Lib.hid (pmayBe_any h g fr many e w B N d hh hb h1 h2 h3)
  have HA := Lib.hid (And.intro hb (And.intro hby (And.intro hh (And.intro ht h3))))
  have hok := Lib.hid hb.1
  clear hb hh hby ht h1 h2
  by_cases c : mayJ d fr many e
  rotate_left
  · have C := Lib.hid (show jRdE d fr many e = 1 from by unfold jRdE; rw [if_neg c])
    rw [decide_eq_false c] at HM
    clear c
    go_enter Tryd.func25, Tryd.ntmps25
    go_wp2_with fail
    refine HM.out.mono ?_
    rintro e' w' ⟨rfl, rfl⟩
    go_wp2_with fail
    go_ret2
    exact RdP.bad C.out (by decide) (Below.refl _ _)
  have C := Lib.hid c
  rw [decide_eq_true c] at HM
  have c1 := c
  unfold mayJ at c1
  obtain ⟨F, hF⟩ : ∃ F : Nat, F = fr.toNat := ⟨_, rfl⟩
  obtain ⟨M, hM⟩ : ∃ M : Nat, M = many.toNat := ⟨_, rfl⟩
  have e1 : fr = (F : Int) := by omega
  have e2 : many = (M : Int) := by omega
  have hfm : 8 * F + 8 * M ≤ d.many := by omega
  have hM1 : 1 ≤ M := by omega
  clear c c1 hF hM
  subst e1 e2
  have hM2 : 8 * M ≤ 524288 := by omega
  have hF2 : 8 * F ≤ 524288 := by omega
  have HFM := Lib.hid hfm
  clear hfm hm
  have HE5 := Lib.hid (fun (hdn : d.down = true) => show jRdE d (F : Int) (M : Int) e = 5 from by unfold jRdE; rw [if_pos C.out, hdn]; rfl)
  have HE0 := Lib.hid (fun (hdn : d.down = false) => show jRdE d (F : Int) (M : Int) e = 0 from by unfold jRdE; rw [if_pos C.out, hdn]; rfl)
  have HRE : Hid (∀ k, k < 8 * M → d.readE ((F : Int) * 8 + (k : Int)) = if d.down then 5 else 0) := Lib.hid fun k hk => by
    have := HFM.out
    unfold Dk.readE
    rw [if_pos (show 0 ≤ ((F : Int) * 8 + (k : Int)) ∧ ((F : Int) * 8 + (k : Int)) < d.many by omega)]
  go_enter Tryd.func25, Tryd.ntmps25
  go_wp2_with fail
  refine HM.out.mono ?_
  rintro e' w' ⟨rfl, rfl⟩
  go_wp2_with fail
  go_loopw [10, 25] (fun bv i wr => ∃ k : Nat, k ≤ 8 * M ∧ i = .int .i64 (k : Int) ∧ Hid (OwnB wr w.heap.size bv (catF (fun q => d.look (8 * F + q)) 0 k) ∧ Below w.heap.size w wr ∧ (1 ≤ k → d.down = false) ∧ ∀ q, q < k → stampIs (d.look (8 * F + q)) e)) (fun _ i _ => 8 * M - (intOf i).toNat)
  case atStart => exact ⟨0, by omega, rfl, Lib.hid ⟨OwnB.nil _ _, Below.refl _ _, fun h => by omega, fun q hq => by omega⟩⟩
  case round =>
    obtain ⟨k, hk, rfl, HK⟩ := hrel
    have HLn := Lib.hid (show (catF (fun q => d.look (8 * F + q)) 0 k).length = 512 * k from catF_len (fun q => hok.out.look_len _) k 0)
    have HBC := Lib.hid (show ∀ (n i : Nat), isB (catF (fun q => d.look (8 * F + q)) i n) from fun n => by
      induction n with
      | zero => exact fun i => isB.nil
      | succ n ih => exact fun i => (HA.out.2.1 _).append2 (ih _))
    obtain ⟨ab, cb, rfl, ib, nb, lb, mb⟩ := HK.out.1.shape
    rw [HLn.out] at lb ⊢
    have HOW := Lib.hid (show OwnB wr w.heap.size (.slice ab (512 * k) cb) (catF (fun q => d.look (8 * F + q)) 0 k) from by
      have := HK.out.1
      rwa [HLn.out] at this)
    have HAB := Lib.hid (And.intro ib (And.intro nb mb))
    clear ib nb mb
    have HSC := Lib.hid (fun (w3 : World) (hb3 : Below wr.heap.size wr w3) => pscan_any e ab (512 * k) cb (catF (fun q => d.look (8 * F + q)) 0 k) w3 (tab16_onJ HA.out.2.2.2.1 (below_then HK.out.2.1 hb3)) HA.out.2.2.2.2 (HAB.out.1.then_ hb3) (HBC.out k 0) HLn.out lb (by omega) (fun h => (HAB.out.2.1 h).1))
    by_cases hlt : k < 8 * M
    · have j1 : (k : Int) < (M : Int) * 8 := by omega
      have HRD := Lib.hid (dread_any h g ((F : Int) * 8 + (k : Int)) wr B N d (by unfold okInt; omega) (row_cells (row_then HA.out.2.2.1 HK.out.2.1) 0) (HA.out.1.then_ HK.out.2.1))
      have hre := HRE.out k hlt
      unfold ReadAt at HRD
      rw [hre, show ((F : Int) * 8 + (k : Int)).toNat = 8 * F + k by omega] at HRD
      clear hre
      cases hdn : d.down with
      | true =>
        rw [hdn, if_pos rfl, errV_mk (by decide)] at HRD
        have HX := Lib.hid (HE5.out hdn)
        clear hdn
        go_wp2_with fail
        refine HRD.out.mono ?_
        rintro e' w2 ⟨v, rfl, hv, -, b2⟩
        have hv2 := hv (by decide)
        subst hv2
        have B2 := Lib.hid (below_then HK.out.2.1 b2)
        clear hv b2
        go_wp2_with fail
        go_ret2
        exact RdP.bad HX.out (by decide) B2.out
      | false =>
        rw [hdn, if_neg (by decide), errV_zero] at HRD
        have HD := Lib.hid hdn
        clear hdn
        go_wp2_with fail
        refine HRD.out.mono ?_
        rintro e' w2 ⟨v, rfl, -, hv, b2⟩
        have hr2 := hv trivial
        obtain ⟨g2, c2, rfl, hg2, hg2'⟩ := hr2.form
        have hrl := hok.out.look_len (8 * F + k)
        have hc9 : 512 ≤ c2 := by
          obtain ⟨a9, c9, e9, -, -, l9, -⟩ := hr2.1.shape
          injection e9 with _ _ e9
          rw [hrl] at l9
          omega
        rw [hrl]
        have HV := Lib.hid (And.intro hr2 b2)
        have HST := Lib.hid (pisStamped_any e (some ⟨g2, 0, none⟩) 512 c2 (d.look (8 * F + k)) w2 HA.out.2.2.2.2 (OwnB.row hr2.1) (HA.out.2.1 _) hrl hc9 (by omega))
        clear hv b2 hr2
        by_cases hst : stampIs (d.look (8 * F + k)) e
        · rw [(stampD_is _ _).2 hst] at HST
          have HS2 := Lib.hid (show ∀ q, q < k + 1 → stampIs (d.look (8 * F + q)) e from fun q hq => by
            by_cases hqk : q < k
            · exact HK.out.2.2.2 q hqk
            · rw [show q = k by omega]; exact hst)
          have HSN := Lib.hid (show catF (fun q => d.look (8 * F + q)) 0 k ++ d.look (8 * F + k) = catF (fun q => d.look (8 * F + q)) 0 (k + 1) by rw [catF_snoc, Nat.zero_add])
          have hsz := HK.out.2.1.size
          clear hst
          go_wp2_with fail
          refine HST.out.mono ?_
          rintro e' w3 ⟨rfl, rfl⟩
          go_wp2_with (at_builtin; refine apR rfl (.tmp 44) (.tmp 45) rfl w.heap.size _ (catF (fun q => d.look (8 * F + q)) 0 k) rfl (HOW.out.then_ HV.out.2) (some ⟨g2, 0, none⟩) 512 c2 (d.look (8 * F + k)) rfl hrl (OwnB.row HV.out.1.1) (fun e => by cases e) (by rw [HLn.out]; omega) (Nat.le_trans hsz HV.out.2.size) ?_; intro v5 w5 hg5; rw [HSN.out] at hg5; have G5 := Lib.hid hg5; clear hg5)
          go_roundw
          case rel => exact ⟨k + 1, by omega, by go_num, Lib.hid ⟨G5.out.own, (G5.out.below (HOW.out.then_ HV.out.2) (below_then HK.out.2.1 HV.out.2) (Nat.le_refl _) (Nat.le_trans hsz HV.out.2.size)), fun _ => by first | exact HD.out | trivial, HS2.out⟩⟩
          case measure => simp [intOf]; omega
        · have hsf : stampD (d.look (8 * F + k)) e = false := by
            cases hc : stampD (d.look (8 * F + k)) e
            · rfl
            · exact absurd ((stampD_is _ _).1 hc) hst
          rw [hsf] at HST
          have HNS := Lib.hid hst
          clear hst hsf
          go_wp2_with fail
          refine HST.out.mono ?_
          rintro e' w3 ⟨rfl, rfl⟩
          go_wp2_with fail
          refine (HSC.out w2 HV.out.2).mono ?_
          rintro e' w4 hsc
          obtain ⟨v4, p4, rfl, hrd⟩ := RdP.good (HE0.out HD.out) hok.out HA.out.2.1 (by omega) HK.out.2.2.2 (.inr HNS.out) (below_then HK.out.2.1 HV.out.2) hsc
          have HRD4 := Lib.hid hrd
          clear hrd hsc
          go_wp2_with fail
          go_ret2
          exact HRD4.out
    · have hkM : k = 8 * M := by omega
      have hD : d.down = false := HK.out.2.2.1 (by omega)
      have HD := Lib.hid hD
      have HKM := Lib.hid hkM
      have j1 : ¬ (k : Int) < (M : Int) * 8 := by omega
      clear hD hkM hlt
      go_wp2_with fail
      refine (HSC.out wr (Below.refl _ _)).mono ?_
      rintro e' w4 hsc
      obtain ⟨v4, p4, rfl, hrd⟩ := RdP.good (HE0.out HD.out) hok.out HA.out.2.1 (by have := HKM.out; omega) HK.out.2.2.2 (.inl HKM.out) HK.out.2.1 hsc
      have HRD4 := Lib.hid hrd
      clear hrd hsc
      go_wp2_with fail
      go_ret2
      exact HRD4.out
end Go.Proofs.YtophhnolnlbecaaDoor
namespace Go.Proofs.YtophhnolnlbecaaDoor
open Go.RowKit
set_option maxRecDepth 100000

theorem int_und : Tryd.prog.underlying 3 = some (.int .i64) := Tryd.underlying3
theorem grow_nil (n : Nat) (h0 : 1 ≤ n) (hn : n ≤ 140737488351232) (w : World) :
    Calls Tryd.prog 70 #[.slice none 0 0, .int .i64 (n : Int)] w fun en w' => ∃ c, en = .returned (.slice (some ⟨w.heap.size, 0, none⟩) 0 c) ∧ OwnB w' w.heap.size (.slice (some ⟨w.heap.size, 0, none⟩) 0 c) [] ∧ Below w.heap.size w w' := by
  obtain ⟨i0, hi0, hz0, hz1, hz2⟩ := info_parts info_byte
  have happ := Lib.run_append_nil_zeros (P := Tryd.prog) w 22 3 22 5 i0 (.int .u8 0) .i64 .i64 Tryd.underlying22 int_und hi0 hz0 n (by omega) (by rw [hz1]; decide) (by omega) (by rw [hz2]; omega)
  generalize hcap : grownCap w n 0 5 = cap2 at happ
  have hcapge : n ≤ cap2 := by rw [← hcap]; exact grownCap_ge w _ 0 _
  have hcaple : cap2 ≤ maxLen := by rw [← hcap]; exact grownCap_le_maxLen w _ 0 _ (by unfold maxLen; omega)
  generalize hZ : (Builtin.zeroCells (Value.int .u8 0).cells n ++ Builtin.zeroCells (Value.int .u8 0).cells (cap2 - n)) = Z at happ
  have hZs : Z.size = cap2 := by rw [← hZ]; simp [size_zeroCells, Value.cells]; omega
  have HE := Lib.hid (show OwnB (w.alloc (.cells Z 5)) w.heap.size (.slice (some ⟨w.heap.size, 0, none⟩) 0 cap2) [] from
    ⟨rfl, .inr ⟨w.heap.size, cap2, Z, rfl, Nat.le_refl _, heap_alloc_new w _, Nat.zero_le _, hcaple, by rw [hZs, Nat.mul_one], by simp [btV]⟩⟩)
  clear hcap hZ hZs
  have hcm : cap2 ≤ 9223372036854775807 := by unfold maxLen at hcaple; omega
  go_enter Tryd.func70, Tryd.ntmps70
  go_wp2_with (at_builtin; refine Lib.wpList_append_run _ rfl _ _ _ _ rfl _ _ rfl rfl _ _ happ ?_)
  go_ret
  exact ⟨cap2, rfl, HE.out.drew, (Below.drew (below1 w (.cells Z 5)))⟩
set_option maxHeartbeats 4000000 in
theorem pconcat_any (r : Nat) (a0 a1 : Option Addr) (n0 c0 n1 c1 : Nat) (l0 l1 : List Int) (w : World) (hr : w.heap[r]? = some (.cells #[.slice a0 n0 c0, .slice a1 n1 c1] 22)) (i0 : InB w a0 l0) (e0 : l0.length = n0) (z0 : a0 = none → c0 = 0 ∧ l0 = []) (i1 : InB w a1 l1) (e1 : l1.length = n1) (z1 : a1 = none → c1 = 0 ∧ l1 = []) (h1 : 1 ≤ n1) (hl : n0 + n1 ≤ 1000000000) :
    Calls Tryd.prog 49 #[.slice (some ⟨r, 0, none⟩) 2 2] w fun en w' => ∃ v, en = .returned v ∧ OwnB w' w.heap.size v (l0 ++ l1) ∧ Below w.heap.size w w' := by
  have HR := Lib.hid hr
  have H0 := Lib.hid (And.intro i0 (And.intro e0 z0))
  have H1 := Lib.hid (And.intro i1 (And.intro e1 z1))
  have HG := Lib.hid (grow_nil (n0 + n1) (by omega) (by omega) w)
  have k0 := row_cells hr 0
  have k1 := row_cells hr 1
  clear hr i0 e0 z0 i1 e1 z1
  go_enter Tryd.func49, Tryd.ntmps49
  go_wp2_with fail
  go_loopw [3, 11] (fun sz i wr => wr = w ∧ ((i = .int .i64 0 ∧ sz = .int .i64 0) ∨ (i = .int .i64 1 ∧ sz = .int .i64 (n0 : Int)) ∨ (i = .int .i64 2 ∧ sz = .int .i64 ((n0 + n1 : Nat) : Int)))) (fun _ i _ => 2 - (intOf i).toNat)
  case atStart => exact ⟨rfl, .inl ⟨rfl, rfl⟩⟩
  case round =>
    obtain ⟨hw, hcase⟩ := hrel
    obtain rfl : w = wr := hw.symm
    rcases hcase with ⟨rfl, rfl⟩ | ⟨rfl, rfl⟩ | ⟨rfl, rfl⟩
    · go_wp2_with fail
      go_roundw
      case rel => exact ⟨trivial, .inr (.inl ⟨rfl, by simp⟩)⟩
      case measure => simp [intOf]
    · go_wp2_with fail
      go_roundw
      case rel => exact ⟨trivial, .inr (.inr ⟨rfl, by push_cast; rfl⟩)⟩
      case measure => simp [intOf]
    · obtain ⟨n, hn⟩ : ∃ n, n = n0 + n1 := ⟨_, rfl⟩
      rw [← hn] at HG ⊢
      clear hn
      go_wp2_with fail
      refine HG.out.mono ?_
      rintro en w1 ⟨c, rfl, o1, b1⟩
      have O1 := Lib.hid (And.intro o1 b1)
      clear o1 b1 k0 k1
      go_wp2_with fail
      go_loopw [6, 27] (fun v i w2 => (i = .int .i64 0 ∧ Hid (OwnB w2 w.heap.size v [] ∧ Below w.heap.size w w2)) ∨ (i = .int .i64 1 ∧ Hid (OwnB w2 w.heap.size v l0 ∧ Below w.heap.size w w2)) ∨ (i = .int .i64 2 ∧ Hid (OwnB w2 w.heap.size v (l0 ++ l1) ∧ Below w.heap.size w w2))) (fun _ i _ => 2 - (intOf i).toNat)
      case atStart => exact .inl ⟨rfl, O1⟩
      case round =>
        rcases hrel with ⟨rfl, HK⟩ | ⟨rfl, HK⟩ | ⟨rfl, HK⟩
        · have k0 := row_cells (row_then HR.out HK.out.2) 0
          go_wp2_with (at_builtin; refine apR rfl (.tmp 31) (.tmp 32) rfl w.heap.size _ [] rfl HK.out.1 a0 n0 c0 l0 rfl H0.out.2.1 (H0.out.1.then_ HK.out.2) H0.out.2.2 (by simp; omega) HK.out.2.size ?_; intro v5 w5 hg5; rw [List.nil_append] at hg5; have G5 := Lib.hid (And.intro hg5.own (hg5.below HK.out.1 HK.out.2 (Nat.le_refl _) HK.out.2.size)); clear hg5)
          go_roundw
          case rel => exact .inr (.inl ⟨rfl, G5⟩)
          case measure => simp [intOf]
        · have k1 := row_cells (row_then HR.out HK.out.2) 1
          go_wp2_with (at_builtin; refine apR rfl (.tmp 31) (.tmp 32) rfl w.heap.size _ l0 rfl HK.out.1 a1 n1 c1 l1 rfl H1.out.2.1 (H1.out.1.then_ HK.out.2) H1.out.2.2 (by rw [H0.out.2.1]; omega) HK.out.2.size ?_; intro v5 w5 hg5; have G5 := Lib.hid (And.intro hg5.own (hg5.below HK.out.1 HK.out.2 (Nat.le_refl _) HK.out.2.size)); clear hg5)
          go_roundw
          case rel => exact .inr (.inr ⟨rfl, G5⟩)
          case measure => simp [intOf]
        · go_wp2_with fail
          go_ret
          exact ⟨_, rfl, HK.out.1, HK.out.2⟩
theorem eq_nilJ (w : World) (a : Option Addr) (n c : Nat) : (binOp BinOp.eql 22 (.slice a n c) (.slice none 0 0)).run Tryd.prog w = .ok (.bool a.isNone) w := by
  have h := run_equal_slice_nil (P := Tryd.prog) w 22 5 a n c Tryd.underlying22
  simp [binOp, go_sem, h]
set_option maxHeartbeats 2000000 in
theorem cloneJ_any (ad : Addr) (n c : Nat) (q : List Int) (w : World) (ha : InB w (some ad) q) (hn : q.length = n) (hl : n ≤ 140737488351232) :
    Calls Tryd.prog 53 #[.slice (some ad) n c] w fun en w' => ∃ v, en = .returned v ∧ OwnB w' w.heap.size v q ∧ Below w.heap.size w w' := by
  have HA := Lib.hid (And.intro ha hn)
  have kc := fun w => eq_nilJ w (some ad) n c
  simp only [Option.isNone_some] at kc
  have HO := Lib.hid (show OwnB (w.alloc (.cells #[] 5)) w.heap.size (.slice (some ⟨w.heap.size, 0, none⟩) 0 0) [] by simpa [btV] using OwnB.lit w [] (by simp))
  clear ha hn
  go_enter Tryd.func53, Tryd.ntmps53
  go_wp2_with (first | (at_builtin; refine apR rfl (.tmp 5) (.tmp 6) rfl w.heap.size _ _ rfl HO.out (some ad) n c q rfl HA.out.2 (HA.out.1.then_ (below1 _ _)) (fun h => by cases h) (by simp; omega) (below1 _ _).size ?_; intro v1 w1 hg1; rw [List.nil_append] at hg1; have G1 := Lib.hid hg1; clear hg1))
  go_ret
  exact ⟨_, rfl, G1.out.own, G1.out.below HO.out (below1 _ _) (Nat.le_refl _) (below1 _ _).size⟩
end Go.Proofs.YtophhnolnlbecaaDoor
