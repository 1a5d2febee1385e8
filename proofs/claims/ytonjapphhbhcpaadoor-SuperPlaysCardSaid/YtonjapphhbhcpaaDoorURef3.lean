/- The document's own superblock: Open. No statement is proved here. -/
import Derived.Test.YtonjapphhbhcpaaDoorURef2
import Derived.Test.YtonjapphhbhcpaaDoorYI
import Derived.BigRegion
namespace Go.Proofs.YtonjapphhbhcpaaDoor
open Go.RowKit
set_option maxRecDepth 100000

theorem box_frozen {w : World} {g : Nat} {cs : Array Value} {t : TypeId} (h : w.heap[g]? = some (.cells cs t)) (o : Nat) : w.frozen? ⟨g, o, none⟩ = false := by
  simp [World.frozen?, h]
theorem put4V {W V : World} {R : Nat} {t : TypeId} {x0 x1 x2 x3 v0 v1 v2 v3 : Value} (r : W.heap[R]? = some (.cells #[x0, x1, x2, x3] t)) (hV : ((((W.setCell ⟨R, 0, none⟩ v0).setCell ⟨R, 1, none⟩ v1).setCell ⟨R, 2, none⟩ v2).setCell ⟨R, 3, none⟩ v3) = V) : Only [R] W V ∧ V.heap[R]? = some (.cells #[v0, v1, v2, v3] t) := by
  subst hV
  refine ⟨((((Only.refl [R] W).setCell (p := ⟨R, 0, none⟩) (.inl (by simp)) v0).setCell (p := ⟨R, 1, none⟩) (.inl (by simp)) v1).setCell (p := ⟨R, 2, none⟩) (.inl (by simp)) v2).setCell (p := ⟨R, 3, none⟩) (.inl (by simp)) v3, ?_⟩
  have s0 := set_heap (i := 0) r v0
  have s1 := set_heap (i := 1) s0 v1
  have s2 := set_heap (i := 2) s1 v2
  exact set_heap (i := 3) s2 v3
/-- What Open tells. -/
def SOpenTo (l : List Int) (number : Int) (w : World) (e : Ending) (w' : World) : Prop := e = .returned (.tuple #[(sopS l number).arg, .int .i64 (sopE l number)]) ∧ Below w.heap.size w w'
theorem SOpenTo.bad {l : List Int} {number : Int} {w w' : World} {n : Int} (h : sopE l number = n) (hn : n ≠ 0) (hb : Below w.heap.size w w') : SOpenTo l number w (.returned (.tuple #[.agg #[.int .i64 0, .int .i64 0, .int .i64 0, .int .i64 0], .int .i64 n])) w' :=
  ⟨by unfold sopS; rw [h, if_neg hn]; rfl, hb⟩
theorem sop_140 {l : List Int} {number : Int} (h0 : 0 ≤ number ∧ number ≤ 1) (he : openE l number = 0) (h : ¬ (openK l number = 1 ∧ supGood (openL l number) = true ∧ (supOf (openL l number)).ok = true ∧ (supOf (openL l number)).ver % 2 = number)) : sopE l number = 140 := by
  unfold sopE
  rw [if_neg (by omega), if_neg (fun h => h he), if_neg h]
theorem sop_0 {l : List Int} {number : Int} (h0 : 0 ≤ number ∧ number ≤ 1) (he : openE l number = 0) (h1 : openK l number = 1) (h2 : supGood (openL l number) = true) (h3 : (supOf (openL l number)).ok = true) (h4 : (supOf (openL l number)).ver % 2 = number) : sopE l number = 0 ∧ sopS l number = supOf (openL l number) := by
  have h : sopE l number = 0 := by
    unfold sopE
    rw [if_neg (by omega), if_neg (fun h => h he), if_pos ⟨h1, h2, h3, h4⟩]
  exact ⟨h, by unfold sopS; rw [if_pos h]⟩
theorem openL_byte {l : List Int} {number : Int} (h : isB l) : isB (openL l number) := by
  unfold openL
  split
  · exact (h.drop _).take' _
  · exact isB.nil
def supL (x : List Int) : List Int := [readP x 4 8, readP x 12 8, readP x 20 8, readP x 28 8]
theorem supL_get {x : List Int} {k : Nat} (h : k < 4) : (supL x)[k]? = some (readP x (4 + 8 * (k : Int)) 8) := by
  match k, h with
  | 0, _ => rfl
  | 1, _ => rfl
  | 2, _ => rfl
  | 3, _ => rfl
theorem supGood_read {x : List Int} (h : supGood x = true) {k : Nat} (hk : k < 4) : readE x (4 + 8 * (k : Int)) 8 = 0 := by
  unfold supGood at h
  simp only [Bool.and_eq_true, decide_eq_true_eq] at h
  obtain ⟨-, -, h1, h2, h3, h4⟩ := h
  match k, hk with
  | 0, _ => exact h1
  | 1, _ => exact h2
  | 2, _ => exact h3
  | 3, _ => exact h4
theorem supGood_of {x : List Int} (hl : x.length = 36) (hs : x.take 4 = signL) (h : ∀ j : Nat, j < 4 → readE x (4 + 8 * (j : Int)) 8 = 0) : supGood x = true := by
  unfold supGood
  simp only [Bool.and_eq_true, decide_eq_true_eq]
  exact ⟨hl, hs, h 0 (by decide), h 1 (by decide), h 2 (by decide), h 3 (by decide)⟩
theorem readP_ok {x : List Int} (h : isB x) (a : Int) : okInt (readP x a 8) := by
  unfold readP
  split
  · rename_i hr
    have h0 := (valB_le ((h.drop a.toNat).take' (8 : Int).toNat)).1
    have ht : topR x a 8 = true := by
      unfold readE at hr
      split at hr
      · split at hr
        · split at hr
          · assumption
          · exact absurd hr (by decide)
        · exact absurd hr (by decide)
      · exact absurd hr (by decide)
    have ht2 : valB (cutB x a 8) ≤ 9223372036854775807 := of_decide_eq_true ht
    unfold okInt
    have h0 : 0 ≤ valB (cutB x a 8) := h0
    omega
  · unfold okInt; omega
set_option maxHeartbeats 8000000 in
theorem ropen14_any (number : Int) (la : Option Addr) (n c : Nat) (l : List Int) (w : World) (h1 : okInt number) (hin : InB w la l) (hB : isB l) (hn : l.length = n) (hc : n ≤ c) (hl : n ≤ 140737488351232) :
    Calls Tryd.prog 15 #[.slice la n c, .int .i64 number] w (SOpenTo l number w) := by
  have HN := Lib.hid h1
  have HA := Lib.hid (And.intro hin (And.intro hB hn))
  clear hin hB hn
  unfold okInt at h1
  have HB := Lib.hid (below1 w (.cells #[.int .i64 0, .int .i64 0, .int .i64 0, .int .i64 0] 23))
  have hx := heap_alloc_new w (.cells #[.int .i64 0, .int .i64 0, .int .i64 0, .int .i64 0] 23)
  have HX := Lib.hid hx
  by_cases hnum : number < 0 ∨ 1 < number
  · have HE := Lib.hid (show sopE l number = 1 by unfold sopE; rw [if_pos hnum])
    have f0 := box_frozen hx
    have c0 := row_cells hx
    rcases hnum with hnum | hnum
    all_goals
      go_enter Tryd.func15, Tryd.ntmps15
      go_wp2_with fail
      clear f0
      simp [bodyPost, results, Tryd.results15, go_sem, c0]
      exact SOpenTo.bad HE.out (by decide) HB.out
  · have hnp : 0 ≤ number ∧ number ≤ 1 := by omega
    clear hnum
    go_enter Tryd.func15, Tryd.ntmps15
    go_wp2_with fail
    refine (refOpen_any number la n c l _ HN.out (HA.out.1.then_ HB.out) HA.out.2.1 HA.out.2.2 hc hl).mono ?_
    rintro e w2 ⟨v2, rfl, o2, b2⟩
    have B2 := Lib.hid (below_then HB.out b2)
    have X2 := Lib.hid (row_then HX.out b2)
    obtain ⟨a2, c2, rfl, i2, n2, le2, -⟩ := o2.shape
    have H2 := Lib.hid (And.intro i2 (And.intro n2 o2))
    have f2 := box_frozen X2.out
    have r0 := row_cells X2.out 0
    have r1 := row_cells X2.out 1
    have r2 := row_cells X2.out 2
    have r3 := row_cells X2.out 3
    clear o2 b2 i2 n2 hx
    by_cases he : openE l number = 0
    · --main
      have H140 := Lib.hid (fun h => sop_140 (l := l) hnp he h)
      have HS0 := Lib.hid (fun h1 h2 h3 h4 => sop_0 (l := l) hnp he h1 h2 h3 h4)
      have HXB := Lib.hid (openL_byte (number := number) HA.out.2.1)
      rw [he]
      clear he
      generalize openL l number = x at *
      generalize openK l number = kk at *
      by_cases hk : kk = 1
      rotate_left
      · have hkn : (kk != 1) = true := by simp [hk]
        have HE := Lib.hid (H140.out fun h => hk h.1)
        clear hk
        go_wp2_with fail
        generalize hV : World.setCell _ _ _ = V
        obtain ⟨t1, t2⟩ := put4V X2.out hV
        have q := row_cells t2
        have HF := Lib.hid ((Only.of_below (S := []) B2.out).then_ t1 (fun z hz => .inr (by rw [List.mem_singleton.1 hz]; exact Nat.le_refl _))).below
        clear hV t1 t2 r0 r1 r2 r3 f2
        simp [bodyPost, results, Tryd.results15, go_sem, q]
        exact SOpenTo.bad HE.out (by decide) HF.out
      subst hk
      by_cases h36 : x.length = 36
      rotate_left
      · have hn : ((x.length : Int) != 36) = true := by simp; omega
        have HE := Lib.hid (H140.out fun h => by
          have h2 := h.2.1
          unfold supGood at h2
          simp [h36] at h2)
        clear h36
        go_wp2_with fail
        generalize hV : World.setCell _ _ _ = V
        obtain ⟨t1, t2⟩ := put4V X2.out hV
        have q := row_cells t2
        have HF := Lib.hid ((Only.of_below (S := []) B2.out).then_ t1 (fun z hz => .inr (by rw [List.mem_singleton.1 hz]; exact Nat.le_refl _))).below
        clear hV t1 t2 r0 r1 r2 r3 f2
        simp [bodyPost, results, Tryd.results15, go_sem, q]
        exact SOpenTo.bad HE.out (by decide) HF.out
      have HL := Lib.hid h36
      have HL := Lib.hid h36
      rw [h36] at le2 ⊢
      clear h36
      obtain ⟨b2, o2, x0, rfl, -, -⟩ := H2.out.1.one (i := 0) (by rw [HL.out]; omega)
      have hcv := fun W (hb : Below w2.heap.size w2 W) => run_str W (some ⟨b2, o2, none⟩) 4 c2 (x.take 4) (by rw [List.length_take, HL.out]; rfl) ((H2.out.1.then_ hb).take_ 4) (fun e => by cases e)
      have hcv2 := hcv w2 (Below.refl _ _)
      by_cases hs : x.take 4 = signL
      rotate_left
      · have HE := Lib.hid (H140.out fun h => by
          have h2 := h.2.1
          unfold supGood at h2
          simp [hs] at h2)
        have hne : ((strOfNums (x.take 4)).toList == [67, 70, 82, 84]) = false := by
          cases hc : ((strOfNums (x.take 4)).toList == [67, 70, 82, 84]) with
          | false => rfl
          | true =>
            have e1 := bsI_str (l := x.take 4) (HXB.out.take' 4)
            have e2 := eq_of_beq hc
            rw [ByteArray.toList_eq] at e2
            unfold bsI at e1
            rw [e2] at e1
            exact absurd e1.symm hs
        generalize strOfNums (x.take 4) = S at *
        clear hs hcv
        go_wp2_with fail
        generalize hV : World.setCell _ _ _ = V
        obtain ⟨t1, t2⟩ := put4V X2.out hV
        have q := row_cells t2
        have HF := Lib.hid ((Only.of_below (S := []) B2.out).then_ t1 (fun z hz => .inr (by rw [List.mem_singleton.1 hz]; exact Nat.le_refl _))).below
        clear hV t1 t2 r0 r1 r2 r3 f2
        simp [bodyPost, results, Tryd.results15, go_sem, q]
        exact SOpenTo.bad HE.out (by decide) HF.out
      have heq : ((strOfNums (x.take 4)).toList == [67, 70, 82, 84]) = true := by rw [hs]; decide +kernel
      have HSG := Lib.hid hs
      generalize strOfNums (x.take 4) = S at *
      clear hs hcv
      go_wp2_with fail
      have HO2 := Lib.hid (readP_ok (x := x) HXB.out)
      go_loopw [9, 10] (fun v i wr => ∃ k : Nat, k ≤ 4 ∧ i = .int .i64 (k : Int) ∧ Hid (OwnI wr w2.heap.size v ((supL x).take k) ∧ Below w2.heap.size w2 wr ∧ ∀ j : Nat, j < k → readE x (4 + 8 * (j : Int)) 8 = 0)) (fun _ i _ => 4 - (intOf i).toNat)
      case atStart => exact ⟨0, by omega, rfl, Lib.hid ⟨OwnI.nil _ _, Below.refl _ _, fun j hj => by omega⟩⟩
      case round =>
        obtain ⟨k, hk, rfl, HR⟩ := hrel
        have X3 := Lib.hid (row_then X2.out HR.out.2.1)
        have B3 := Lib.hid (below_then B2.out HR.out.2.1)
        have f3 := box_frozen X3.out
        have r0 := row_cells X3.out 0
        have r1 := row_cells X3.out 1
        have r2 := row_cells X3.out 2
        have r3 := row_cells X3.out 3
        by_cases hlt : k < 4
        · obtain ⟨t, ht⟩ : ∃ t : Nat, 4 + 8 * (k : Int) = (t : Int) := ⟨4 + 8 * k, by omega⟩
          have ht2 : t ≤ 28 := by omega
          have HT := Lib.hid ht
          have HC := Lib.hid (refRead_any (some ⟨b2, o2, none⟩) c2 36 x (t : Int) 8 wr (H2.out.1.then_ HR.out.2.1) HXB.out HL.out (by omega) (by unfold okInt; omega) (by unfold okInt; omega))
          have HV := Lib.hid (supL_get (x := x) hlt)
          have hlen : ((supL x).take k).length = k := by rw [List.length_take]; simp [supL]; omega
          go_wp2_with fail
          refine HC.out.mono ?_
          rintro e w4 ⟨rfl, rfl⟩
          by_cases hr : readE x (t : Int) 8 = 0
          · have HRE := Lib.hid hr
            rw [hr]
            clear hr HC
            obtain ⟨y, hy⟩ : ∃ y, readP x (t : Int) 8 = y := ⟨_, rfl⟩
            have HY := Lib.hid hy
            rw [hy]
            clear hy f3 r0 r1 r2 r3
            go_wp2_with (at_builtin; refine apIL _ rfl (.tmp 62) (.tmp 64) rfl w2.heap.size _ _ rfl HR.out.1 [y] _ 1 1 rfl rfl rfl rfl (by omega) HR.out.2.1.size ?_; intro v' w8 hg; have G8 := Lib.hid (And.intro hg.own (hg.below HR.out.1 HR.out.2.1 (Nat.le_refl _) HR.out.2.1.size)); clear hg)
            go_roundw
            case rel => exact ⟨k + 1, by omega, by go_num, Lib.hid ⟨by rw [List.take_add_one, HV.out, HT.out, HY.out]; exact G8.out.1, G8.out.2, fun j hj => by
              rcases Nat.lt_or_ge j k with h | h
              · exact HR.out.2.2 j h
              · rw [show j = k by omega, HT.out]; exact HRE.out⟩⟩
            case measure => simp [intOf]; omega
          · have hrn : (readE x (t : Int) 8 != 0) = true := by simp [hr]
            have HE := Lib.hid (H140.out fun h => by
              have h2 := supGood_read h.2.1 hlt
              rw [HT.out] at h2
              exact hr h2)
            clear hr HC
            go_wp2_with fail
            generalize hV : World.setCell _ _ _ = V
            obtain ⟨t1, t2⟩ := put4V X3.out hV
            have q := row_cells t2
            have HF := Lib.hid ((Only.of_below (S := []) B3.out).then_ t1 (fun z hz => .inr (by rw [List.mem_singleton.1 hz]; exact Nat.le_refl _))).below
            clear hV t1 t2 r0 r1 r2 r3 f3
            simp [bodyPost, results, Tryd.results15, go_sem, q]
            exact SOpenTo.bad HE.out (by decide) HF.out
        · have hk4 : k = 4 := by omega
          subst hk4
          have HG := Lib.hid (supGood_of HL.out HSG.out HR.out.2.2)
          have hsl : (supL x).take 4 = supL x := rfl
          rw [hsl] at HR
          obtain ⟨gl, cl, e9, -⟩ := HR.out.1.form (by simp [supL])
          have e9 := e9
          rw [show (supL x).length = 4 from rfl] at e9
          subst e9
          obtain ⟨y0, z0⟩ := HR.out.1.at_ (j := 0) rfl
          obtain ⟨y1, z1⟩ := HR.out.1.at_ (j := 1) rfl
          obtain ⟨y2, z2⟩ := HR.out.1.at_ (j := 2) rfl
          obtain ⟨y3, z3⟩ := HR.out.1.at_ (j := 3) rfl
          clear z0 z1 z2 z3
          have yy := fun (o : Nat) (v : Value) (h : wr.cell? ⟨gl, o, none⟩ = some v) => (show ((wr.alloc (.cells #[.int .i64 0, .int .i64 0, .int .i64 0, .int .i64 0] 23)).drew).cell? ⟨gl, o, none⟩ = some v from ((below1 wr (.cells #[.int .i64 0, .int .i64 0, .int .i64 0, .int .i64 0] 23)).cell (p := ⟨gl, o, none⟩) (cell_lt h)).trans h)
          have q0 := yy _ _ y0
          have q1 := yy _ _ y1
          have q2 := yy _ _ y2
          have q3 := yy _ _ y3
          clear yy
          go_wp2_with fail
          go_region
          clear q0 q1 q2 q3 y0 y1 y2 y3 f3 r0 r1 r2 r3
          have e0 : readP x 4 8 = (supOf x).ver := rfl
          have e1 : readP x 12 8 = (supOf x).root := rfl
          have e2 : readP x 20 8 = (supOf x).ep := rfl
          have e3 : readP x 28 8 = (supOf x).pag := rfl
          have HI : Hid (supOf x).In := Lib.hid ⟨HO2.out _, HO2.out _, HO2.out _, HO2.out _⟩
          rw [e0, e1, e2, e3]
          clear e0 e1 e2 e3
          generalize supOf x = s at *
          have B5 := Lib.hid (below_drewN (below1 wr (.cells #[.int .i64 s.ver, .int .i64 s.root, .int .i64 s.ep, .int .i64 s.pag] 23)) 1)
          have X5 := Lib.hid (show (wr.alloc (.cells #[.int .i64 s.ver, .int .i64 s.root, .int .i64 s.ep, .int .i64 s.pag] 23)).drew.heap[wr.heap.size]? = _ from heap_alloc_new wr (.cells #[.int .i64 s.ver, .int .i64 s.root, .int .i64 s.ep, .int .i64 s.pag] 23))
          obtain ⟨d0, d1, d2, d3⟩ := box4_cells X5.out
          go_wp2_with fail
          refine (rmay_any s HI.out _).mono ?_
          rintro e w6 ⟨rfl, b6⟩
          have B56 := Lib.hid (below_then B5.out b6)
          have X6 := Lib.hid (row_then X3.out B56.out)
          have B6 := Lib.hid (below_then B3.out B56.out)
          have XS := Lib.hid (row_then X5.out b6)
          have f6 := box_frozen X6.out
          have r0 := row_cells X6.out 0
          have r1 := row_cells X6.out 1
          have r2 := row_cells X6.out 2
          have r3 := row_cells X6.out 3
          obtain ⟨s0, s1, s2, s3⟩ := box4_cells XS.out
          clear b6 d0 d1 d2 d3
          cases hok : s.ok with
          | false =>
            have HE := Lib.hid (H140.out fun h => by rw [hok] at h; exact absurd h.2.2.1 (by decide))
            clear hok
            go_wp2_with fail
            generalize hV : World.setCell _ _ _ = V
            obtain ⟨t1, t2⟩ := put4V X6.out hV
            have q := row_cells t2
            have HF := Lib.hid ((Only.of_below (S := []) B6.out).then_ t1 (fun z hz => .inr (by rw [List.mem_singleton.1 hz]; exact Nat.le_refl _))).below
            clear hV t1 t2 r0 r1 r2 r3 f6 s0 s1 s2 s3
            simp [bodyPost, results, Tryd.results15, go_sem, q]
            exact SOpenTo.bad HE.out (by decide) HF.out
          | true =>
            have hv1 := (Sup.ok_yes hok).1
            obtain ⟨p, hp2, hp⟩ := Sup.page hok
            have hrem : s.ver.tmod 2 = (p : Int) := by rw [Int.tmod_eq_emod_of_nonneg (by omega)]; exact hp
            by_cases hn : (p : Int) = number
            · have HE := Lib.hid (HS0.out (by trivial) HG.out hok (by rw [hp]; exact hn))
              have hnb : ((p : Int) != number) = false := by simp [hn]
              clear hok hn
              go_wp2_with fail
              generalize hV : World.setCell _ _ _ = V
              obtain ⟨t1, t2⟩ := put4V X6.out hV
              have q := row_cells t2
              have HF := Lib.hid ((Only.of_below (S := []) B6.out).then_ t1 (fun z hz => .inr (by rw [List.mem_singleton.1 hz]; exact Nat.le_refl _))).below
              clear hV t1 t2 r0 r1 r2 r3 f6 s0 s1 s2 s3
              simp [bodyPost, results, Tryd.results15, go_sem, q]
              exact ⟨by rw [HE.out.1, HE.out.2]; rfl, HF.out⟩
            · have HE := Lib.hid (H140.out fun h => by rw [hp] at h; exact hn h.2.2.2)
              have hnb : ((p : Int) != number) = true := by simp [hn]
              clear hok hn
              go_wp2_with fail
              generalize hV : World.setCell _ _ _ = V
              obtain ⟨t1, t2⟩ := put4V X6.out hV
              have q := row_cells t2
              have HF := Lib.hid ((Only.of_below (S := []) B6.out).then_ t1 (fun z hz => .inr (by rw [List.mem_singleton.1 hz]; exact Nat.le_refl _))).below
              clear hV t1 t2 r0 r1 r2 r3 f6 s0 s1 s2 s3
              simp [bodyPost, results, Tryd.results15, go_sem, q]
              exact SOpenTo.bad HE.out (by decide) HF.out
    · have hb : (openE l number != 0) = true := by simp [he]
      have HE := Lib.hid (show sopE l number = openE l number by unfold sopE; rw [if_neg (by omega), if_pos he])
      have HNZ := Lib.hid he
      clear he
      generalize openE l number = en at *
      generalize openL l number = x at *
      generalize openK l number = kk at *
      go_wp2_with fail
      generalize hV : World.setCell _ _ _ = V
      obtain ⟨t1, t2⟩ := put4V X2.out hV
      have q := row_cells t2
      have HF := Lib.hid ((Only.of_below (S := []) B2.out).then_ t1 (fun z hz => .inr (by rw [List.mem_singleton.1 hz]; exact Nat.le_refl _))).below
      clear hV t1 t2 f2 r0 r1 r2 r3
      simp [bodyPost, results, Tryd.results15, go_sem, q]
      exact SOpenTo.bad HE.out HNZ.out HF.out
end Go.Proofs.YtonjapphhbhcpaaDoor
