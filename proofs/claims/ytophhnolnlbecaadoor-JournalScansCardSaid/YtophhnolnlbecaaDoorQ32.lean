/- The program's journal, over what its rows list as laid. An argument that is four bytes. The laws JournalFrames and JournalScans over the contracts. No statement is proved here. -/
import Derived.Test.YtophhnolnlbecaaDoorJPr13
import Derived.Test.YtophhnolnlbecaaDoorQ20
import Derived.Laws.IdiomArrays
import Derived.Test.YtophhnolnlbecaaDoorQ23
import Derived.Test.YtophhnolnlbecaaDoorQ7
namespace Go.Proofs.YtophhnolnlbecaaDoor
open Go.RowKit
theorem p15f_of {W : World} (h : laidMet Tryd.prog laidAll W) : P15F W where
  frame := fun e num a n c l w hw he hnum hin hB hn hc hcm hl hnil => pframe_any e num a n c l w (tab16_onJ (tab16_of h (.head _)) hw) he hnum hin hB hn hl
  scan := fun e a n c l w hw he hin hB hn hc hcm hl hnil => pscan_any e a n c l w (tab16_onJ (tab16_of h (.head _)) hw) he hin hB hn hc hl (fun e => (hnil e).1)
theorem p15j_of {W : World} (h : laidMet Tryd.prog laidAll W) : P15J W (JnP W) where
  lt := fun ⟨_, _, _, H⟩ b hb => H.lt b hb
  keep := fun ⟨hh, db, v, H⟩ hb => ⟨hh, db, v, H.keep hb⟩
  form := fun ⟨_, _, _, H⟩ b hb => H.form b hb
  new := fun hh g fr many e w B N d hW hlow hd hb h1 h2 h3 => pnewJ_any hh g fr many e w B N d hW hlow hd hb h1 h2 h3
  room := fun F a J w d hW HJ hJ => proom_any F a J w d HJ hJ
  records := fun F a J w d hW HJ hJ => precords_any F a J w HJ
  bytes := fun F a J w d hW HJ hJ => pbytesJ_any F a J w HJ
  refuse := fun F a J x n c l w d hW HJ hJ hin hB hn hc hcm hnil hr => prefuse_any F a J x n c w d HJ hJ (by unfold maxLen at hcm; omega) hr
  append := fun F a J x n c l w lo N X d hW HJ hJ hlo hX hbx hN hin hB hn hc hcm hnil hd hr => pappend_any F a J x n c l w lo N X d (tab16_onJ (tab16_of h (.head _)) hW) hW HJ hJ hlo hX hbx hN hin hB hn hc hcm hd hr
  sync := fun F a J w lo N X d hW HJ hJ hlo hX hbx hN hd => psync_any F a J w lo N X d hW HJ hlo hbx hN hd
  syncD := fun F a J w d hW HJ hJ hd => psyncD_any F a J w HJ hd
  read := fun hh g fr many e w B N d hW hd hb hby hm h1 h2 h3 => pread15_any hh g fr many e w B N d (tab16_onJ (tab16_of h (.head _)) hW) hd hb hby hm h1 h2 h3
end Go.Proofs.YtophhnolnlbecaaDoor
namespace Go.Proofs.YtophhnolnlbecaaDoor
open Go.RowKit Go.ChangeShapes Go.WideShapes Go.ChangeAt Go.Shelf Go.Lib
set_option maxRecDepth 100000

theorem cells_arr4 : Tryd.prog.cellsOf 53 = 4 := by kernel_rfl
theorem okWide_arr4 {w : World} {r : Reach} {base : Nat} {v : Value} (h : Value.okWide Tryd.prog w r base 53 v) : ∃ cs, v = .agg cs ∧ cs.size = 4 := by
  simp only [Value.okWide, Tryd.underlying53] at h
  obtain ⟨cs, h1, h2, _⟩ := h
  exact ⟨cs, h1, by rw [h2, cells_arr4]⟩
theorem open_arr4 {H : Type} {enc : TypeId × Value → H} {W : World} {r : Reach} {base : Nat} {v : Value} {d : DataW H} {p : List MemPlace} (hv : Value.okWide Tryd.prog W r base 53 v) (h : DataW.Trod enc Tryd.prog W 0 (fun _ => true) true 53 v d p) :
    ∃ y0 y1 y2 y3 : Int, v = .agg #[.int .u8 y0, .int .u8 y1, .int .u8 y2, .int .u8 y3] ∧ (0 ≤ y0 ∧ y0 ≤ 255) ∧ (0 ≤ y1 ∧ y1 ≤ 255) ∧ (0 ≤ y2 ∧ y2 ≤ 255) ∧ (0 ≤ y3 ∧ y3 ≤ 255) := by
  obtain ⟨cs, rfl, hs⟩ := okWide_arr4 hv
  obtain ⟨fuel, hf⟩ := h
  obtain ⟨c0, c1, c2, c3, e⟩ : ∃ c0 c1 c2 c3, cs = #[c0, c1, c2, c3] := by
    obtain ⟨l⟩ := cs
    match l, hs with
    | [a, b, c, d], _ => exact ⟨a, b, c, d, rfl⟩
  subst e
  have hf2 : DataW.trod enc Tryd.prog W 0 (fun _ => true) true fuel 53 [c0, c1, c2, c3] = some (d, p) := hf
  obtain ⟨z0, z1, z2, z3, m, -, h0, h1, h2, h3⟩ := trod_array4 Tryd.underlying53 cells_byte hf2
  have one : ∀ (c : Value) (z : DataW H × List MemPlace), DataW.trod enc Tryd.prog W 0 (fun _ => true) true m 5 [c] = some z → ∃ y : Int, c = .int .u8 y ∧ 0 ≤ y ∧ y ≤ 255 := fun c z hz => by
    obtain ⟨y, e, -, wx⟩ := DataW.trod_int Tryd.underlying5 hz
    refine ⟨y, by injection e, ?_⟩
    simp [Lit.wf, IntKind.min, IntKind.max, IntKind.signed, IntKind.bits] at wx
    omega
  obtain ⟨y0, rfl, b0⟩ := one _ _ h0
  obtain ⟨y1, rfl, b1⟩ := one _ _ h1
  obtain ⟨y2, rfl, b2⟩ := one _ _ h2
  obtain ⟨y3, rfl, b3⟩ := one _ _ h3
  exact ⟨y0, y1, y2, y3, rfl, b0, b1, b2, b3⟩
theorem back_arr4 {H : Type} {enc : TypeId × Value → H} {W W' : World} {v : Value} {d : DataW H} {p : List MemPlace} (h : DataW.Trod enc Tryd.prog W 0 (fun _ => true) true 53 v d p) (hb : Below W.heap.size W W') (hlt : ∀ x ∈ p, x.block < W.heap.size) :
    DataW.Trod enc Tryd.prog W' 0 (fun b => decide (b < W.heap.size)) true 53 v d p :=
  Below.trod laid_out (by kernel_rfl) (of_decide_eq_true (by kernel_rfl)) h hb hlt
end Go.Proofs.YtophhnolnlbecaaDoor
namespace Go.Proofs.YtophhnolnlbecaaDoor
open Go.RowKit
set_option maxRecDepth 100000

theorem frL_len (e num : Int) (l : List Int) : (frL e num l).length ≤ 268435476 := by
  unfold frL
  split
  · rename_i h
    rw [jFrame_len]
    unfold frE at h
    split at h
    · exact absurd h (by decide)
    · split at h
      · exact absurd h (by decide)
      · omega
  · exact Nat.zero_le _
set_option maxHeartbeats 8000000 in
theorem frames_law {W : World} (P : P15F W) (number kind : Int) (h1 : okInt number) (h2 : okInt kind) (a : Option Addr) (c n : Nat) (l : List Int) (ha : InB W a l) (hB : isB l) (hn : l.length = n) (hc : n ≤ c ∧ c ≤ 140737488351232) (h0 : a = none → c = 0) :
    Calls Tryd.prog 3 #[.int .i64 number, .int .i64 kind, .slice a n c] W fun e w' => e = .returned (.bool true) ∧ Below W.heap.size W w' := by
  have HP := Lib.hid (And.intro P (And.intro h1 (And.intro h2 (And.intro ha (And.intro hB (And.intro hn (fun e => ⟨h0 e, List.eq_nil_of_length_eq_zero (by have := h0 e; omega)⟩ : a = none → c = 0 ∧ l = [])))))))
  obtain ⟨hc1, hc2⟩ := hc
  clear P h1 h2 ha hB hn h0
  go_enter Tryd.func3, Tryd.ntmps3
  go_wp2_with fail
  refine (awake15_any HP.out.1 W (Below.refl _ _)).mono ?_
  rintro e w1 ⟨rfl, b1⟩
  have B1 := Lib.hid b1
  clear b1
  go_wp2_with fail
  refine (slent_any a c n l w1 (HP.out.2.2.2.1.then_ B1.out) HP.out.2.2.2.2.2.2 HP.out.2.2.2.2.2.1 (by omega)).mono ?_
  rintro e w2 ⟨rfl, ho, b2⟩
  have hin := Lib.hid ho.inB.prefix_
  have O2 := Lib.hid ho
  have B2 := Lib.hid (below_then B1.out b2)
  have S12 := Lib.hid b2.size
  clear b2 ho
  go_wp2_with fail
  refine (HP.out.1.frame number kind _ n (n + 3) l w2 B2.out HP.out.2.1 HP.out.2.2.1 hin.out HP.out.2.2.2.2.1 HP.out.2.2.2.2.2.1 (by omega) (Nat.le_trans (by omega : n + 3 ≤ 140737488355328) (by decide)) (by omega) (fun e => by cases e)).mono ?_
  rintro e w3 ⟨v1, rfl, o1, b3⟩
  have N1 := Lib.hid (And.intro o1 (And.intro B2.out.size b3))
  have B3 := Lib.hid (below_then B2.out b3)
  have O3 := Lib.hid (O2.out.then_ b3)
  have I3 := Lib.hid (hin.out.then_ b3)
  clear b3 o1
  go_wp2_with fail
  refine (HP.out.1.frame number kind _ n (n + 3) l w3 B3.out HP.out.2.1 HP.out.2.2.1 I3.out HP.out.2.2.2.2.1 HP.out.2.2.2.2.2.1 (by omega) (Nat.le_trans (by omega : n + 3 ≤ 140737488355328) (by decide)) (by omega) (fun e => by cases e)).mono ?_
  rintro e w4 ⟨v2, rfl, o2, b4⟩
  have N2 := Lib.hid (And.intro (N1.out.1.then_ b4) (And.intro o2 (And.intro (fun g h1 h2 => by have q1 := (N1.out.1.block g h1).2; have q2 := (o2.block g h2).1; omega : ∀ g, v1.ownBlock = some g → v2.ownBlock ≠ some g) B3.out.size)))
  have B4 := Lib.hid (below_then B3.out b4)
  have O4 := Lib.hid (O3.out.then_ b4)
  clear b4 o2
  go_wp2_with fail
  refine (sback_any w1.heap.size w1.heap.size a c n l w4 O4.out (HP.out.2.2.2.1.then_ B4.out) (fun b o e h => by have := HP.out.2.2.2.1.lowB b o e h; have := B1.out.size; omega) HP.out.2.2.2.2.2.1 (by omega)).mono ?_
  rintro e w5 ⟨rfl, b5⟩
  have hlt : w1.heap.size < w2.heap.size := (O2.out.block _ rfl).2
  have N5 := Lib.hid (And.intro (N2.out.1.keep (w' := w5) fun g hg => b5.block g (N2.out.1.block g hg).2 (by have := (N2.out.1.block g hg).1; simp; omega)) (N2.out.2.1.keep (w' := w5) fun g hg => b5.block g (N2.out.2.1.block g hg).2 (by have := (N2.out.2.1.block g hg).1; have := N1.out.2.2.size; simp; omega)))
  have B5 : Hid (Below W.heap.size W w5) := Lib.hid (((Only.of_below (S := []) B4.out).then_ b5 (by intro i hi; simp at hi; subst hi; right; exact B1.out.size)).below)
  clear b5 hlt
  go_wp2_with fail
  refine (rframe_any number kind a n c l w5 HP.out.2.1 HP.out.2.2.1 (HP.out.2.2.2.1.then_ B5.out) HP.out.2.2.2.2.1 HP.out.2.2.2.2.2.1 (by omega) HP.out.2.2.2.2.2.2).mono ?_
  rintro e w6 ⟨v3, rfl, o3, b6⟩
  have N6 := Lib.hid (And.intro (N5.out.1.then_ b6) (And.intro (N5.out.2.then_ b6) o3))
  have B6 := Lib.hid (below_then B5.out b6)
  clear b6 o3
  have HEn := Lib.hid (show frE number kind l.length = frE number kind n by rw [HP.out.2.2.2.2.2.1])
  rw [HEn.out]
  obtain ⟨a1, c1, e1, i1, -⟩ := N6.out.1.shape
  obtain ⟨a2, c2, e2, i2, -⟩ := N6.out.2.1.shape
  obtain ⟨a3, c3, e3, i3, -⟩ := N6.out.2.2.shape
  subst e1 e2 e3
  have s1 := run_str w6 a1 _ c1 _ rfl i1 N6.out.1.isNil
  have s2 := run_str w6 a2 _ c2 _ rfl i2 N6.out.2.1.isNil
  have s3 := run_str w6 a3 _ c3 _ rfl i3 N6.out.2.2.isNil
  have HL := Lib.hid (frL_len number kind l)
  clear i1 i2 i3
  go_wp2_with fail
  refine (sowned_any W.heap.size w6.heap.size 0 2 2 _ _ _ (rows_two (N6.out.1.base N1.out.2.1) (N6.out.2.1.base (Nat.le_trans N1.out.2.1 (by have := N1.out.2.2.size; omega))) N2.out.2.2.1 22) rfl (fun _ => rfl) (Nat.le_trans B6.out.size (below1 _ _).size) (by simp) (fun i v L hi => by have := List.mem_of_getElem? hi; simp at this; have h := HL.out; rcases this with ⟨-, rfl⟩ | ⟨-, rfl⟩ <;> omega) (by omega)).mono ?_
  rintro e w9 ⟨rfl, b9⟩
  have B9 := Lib.hid ((B6.out.trans ((below1 w6 _).mono B6.out.size)).trans b9)
  clear b9
  go_wp2_with fail
  go_ret
  exact ⟨rfl, B9.out⟩
end Go.Proofs.YtophhnolnlbecaaDoor
