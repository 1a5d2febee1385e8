/- The contract of meet, the iterator of Reach: no statement is proved here. -/
import Derived.Test.YtkklnfihjikilaaDoorPathMeet
import Derived.StillTailTactics
namespace Go.Proofs.YtkklnfihjikilaaDoor
open Go.RowKit Go.Shelf
set_option maxRecDepth 100000
attribute [local go_sem] Oper.semAt_some

theorem metV_nil (v : V) : metV v [] = [v] := by obtain ⟨k, n, s, l, d⟩ := v; rw [metV]
theorem zero_in (w : World) : zeroT.In w := by intro p hp; simp [zeroT, T.places, T.placesL, T.placesD] at hp
theorem zero_ok : zeroT.ok := by simp [zeroT, T.ok, T.okL, T.okD, okInt, okLen, okFar, ByteArray.size]
/-- A round for a value that lay there. -/
theorem met_one {w0 : World} {B l N : Nat} {J Jx : List (Lain w0) → World → Prop} (hR : Rounds w0 B l N J Jx) (m : Nat) (t : T) (ok : t.ok) (hin : t.In w0) (pre : List (Lain w0)) (W : World) (hJ : J pre W) (hN : pre.length + 1 ≤ N) :
    YieldAt Fence.wide m Tryd.prog l #[t.arg] W (MeetTo w0 B J Jx [t.val] pre W) := by
  refine YieldAt.mono (hR.yields m pre ⟨t, ok, hin⟩ W hJ (by omega)) fun e W' h => ?_
  rcases h with ⟨he, hj, hb⟩ | ⟨he, hj⟩
  · exact .inl ⟨he, hb, [⟨t, ok, hin⟩], rfl, hj⟩
  · exact .inr ⟨he, [⟨t, ok, hin⟩], List.prefix_refl _, hj⟩
theorem MeetTo.pre {w0 : World} {B : Nat} {J Jx : List (Lain w0) → World → Prop} {vs : List V} {pre : List (Lain w0)} {W W1 : World} {e : Ending} {W' : World} (h : Keep w0.heap.size B W W1) (k : MeetTo w0 B J Jx vs pre W1 e W') : MeetTo w0 B J Jx vs pre W e W' := by
  rcases k with ⟨he, hb, hq⟩ | h
  · exact .inl ⟨he, h.trans hb, hq⟩
  · exact .inr h

theorem still_skip {P : Program} {ops : Array Oper} {o : Oper} {a : Act} {w : World} {K : Act → Prop} (h : Region.wanted o (yielded ops a.tmps) = false) (hk : K (a.put o.dst undef)) : if Region.wanted o (yielded ops a.tmps) = true then Oper.still P o a w K else K (a.put o.dst undef) := by
  rw [if_neg (by rw [h]; exact Bool.false_ne_true)]; exact hk
theorem still_val {P : Program} {ops : Array Oper} {o : Oper} {a : Act} {w : World} {K : Act → Prop} {E : Prop} (v : Value) (h : Region.wanted o (yielded ops a.tmps) = true) (hr : (execOp a.eval o).run P w = .ok (.value v) w) (hk : K (a.put o.dst v)) : if Region.wanted o (yielded ops a.tmps) = true then Oper.still P o a w K else E := by
  rw [if_pos h, Oper.still, hr, Oper.stillUpon_value]; exact hk
theorem still_drop {P : Program} {ops : Array Oper} {w : World} {Q : Act → Prop} (g t : Nat) (hops : (ops[g]?).bind (·.dst) = some t) : ∀ (L : List Oper) (a : Act), (L.all fun o => o.guard == some (g, false) && o.dst != some t) = true → a.tmps[t]? = some (.bool true) → Q (L.foldl (fun a o => a.put o.dst undef) a) → wpStill P ops w Q L a
  | [], a, _, _, hq => wpStill_nil hq
  | o :: L, a, h, ha, hq => by
    rw [List.all_cons, Bool.and_eq_true, Bool.and_eq_true] at h
    obtain ⟨⟨h1, h2⟩, h3⟩ := h
    have h1' : o.guard = some (g, false) := by simpa using h1
    have h2' : o.dst ≠ some t := by simpa using h2
    refine wpStill_step (fun K hK => still_skip ?_ (hK _ (still_drop g t hops L _ h3 ?_ hq)))
    · simp [Region.wanted, h1', yielded, hops, ha]
    · cases hdst : o.dst with
      | none => exact ha
      | some d =>
        have : d ≠ t := fun e => h2' (by rw [hdst, e])
        simpa [Act.put, Array.getElem?_setIfInBounds_ne this] using ha
theorem put_tmp {a : Act} {d : Option Tmp} {v u : Value} {t : Nat} (hne : d ≠ some t) (ha : a.tmps[t]? = some u) : (a.put d v).tmps[t]? = some u := by
  cases d with
  | none => exact ha
  | some d =>
    have : d ≠ t := fun e => hne (by rw [e])
    simpa [Act.put, Array.getElem?_setIfInBounds_ne this] using ha
theorem still_strip {P : Program} {ops : Array Oper} {w : World} {Q : Act → Prop} (g t : Nat) (hops : (ops[g]?).bind (·.dst) = some t) : ∀ (L : List Oper) (a : Act), (L.all fun o => o.guard == some (g, false) && o.dst != some t) = true → a.tmps[t]? = some (.bool false) → wpStill P ops w Q (L.map fun o => { o with guard := none }) a → wpStill P ops w Q L a
  | [], _, _, _, h => h
  | o :: L, a, h, ha, hq => by
    rw [List.all_cons, Bool.and_eq_true, Bool.and_eq_true] at h
    obtain ⟨⟨h1, h2⟩, h3⟩ := h
    have h1' : o.guard = some (g, false) := by simpa using h1
    have h2' : o.dst ≠ some t := by simpa using h2
    have w1 : Region.wanted o (yielded ops a.tmps) = true := by simp [Region.wanted, h1', yielded, hops, ha]
    have w2 : Region.wanted { o with guard := none } (yielded ops a.tmps) = true := by simp [Region.wanted]
    rw [List.map_cons, wpStill, if_pos w2] at hq
    rw [wpStill, if_pos w1]
    have e : execOp a.eval { o with guard := none } = execOp a.eval o := rfl
    unfold Oper.still at hq ⊢
    rw [e] at hq
    generalize (execOp a.eval o).run P w = r at hq ⊢
    cases r with
    | ok n w' =>
      cases n <;> simp only [Oper.stillUpon] at hq ⊢
      case enter f args => obtain ⟨h5, v, hc, hn⟩ := hq; exact ⟨h5, v, hc, still_strip g t hops L _ h3 (put_tmp h2' ha) hn⟩
      all_goals exact ⟨hq.1, still_strip g t hops L _ h3 (put_tmp h2' ha) hq.2⟩
    | halt x w' => simp only [Oper.stillUpon] at hq
theorem met_list (n : Int) (s : ByteArray) (l : List V) (d : List (ByteArray × V)) (p : ByteArray) (r : List ByteArray) : metV (.mk 6 n s l d) (p :: r) = metEach l (p :: r) ++ (match childV (.mk 6 n s l d) p with | some x => metV x r | none => []) := by
  have hc : childV (.mk 6 n s l d) p = if 0 ≤ placeN p then l[(placeN p).toNat]? else none := by simp [childV]
  rw [metV, if_pos rfl, hc]
  congr 1
  by_cases h0 : 0 ≤ placeN p
  · rw [if_pos h0]
    by_cases h1 : placeN p < l.length
    · rw [if_pos h1]; exact metNth_get r _ _ h0
    · rw [if_neg h1, List.getElem?_eq_none (by omega)]
  · rw [if_neg h0]
    by_cases h1 : placeN p < l.length
    · rw [if_pos h1]; exact metNth_neg r _ _ (by omega)
    · rw [if_neg h1]

set_option maxHeartbeats 4000000 in
theorem meet_any (w0 : World) (B l N : Nat) (J Jx : List (Lain w0) → World → Prop) (hR : Rounds w0 B l N J Jx) (t : T) : t.ok → t.In w0 → MeetAt w0 B l N J Jx t := by
  induction t using T.ind with
  | h kx nx sx lax lcx lx dax dcx dx ihl ihd =>
  intro ok hin ps pa pc pre W hps hW hLO hJ hN
  show Calls _ _ #[.agg #[.int .i64 kx, .int .i64 nx, .string sx, .slice lax lx.length lcx, .slice dax dx.length dcx], .slice pa ps.length pc, .func (.yield l) #[] #[]] _ _
  obtain ⟨-, -, -, -, hs, hl1, hl2, hd1, hd2, okl, okd⟩ := ok.parts
  have IHL := Lib.hid (fun x hx hi => ihl x hx (okl x hx) hi)
  have IHD := Lib.hid (fun x hx hi => ihd x hx (okd x hx).2 hi)
  have HR := Lib.hid hR
  have HO := Lib.hid ok
  have HI := Lib.hid hin
  have HP := Lib.hid hps
  have HW := Lib.hid hW
  have HJ := Lib.hid hJ
  have HLO := Lib.hid hLO
  have OKL := Lib.hid okl
  have hlen := hps.len
  have W1 := Lib.hid (below1 W (.cells #[.int .i64 kx, .int .i64 nx, .string sx, .slice lax lx.length lcx, .slice dax dx.length dcx] 31))
  clear ihl ihd okl okd hin ok hps hR hW hJ hLO
  refine (callsIn_wide (n := 3)).1 ?_
  refine callsIn_of_wp Tryd.func64 rfl trivial ?_ rfl
  simp only [Tryd.ntmps64, List.size_toArray, List.length_cons, List.length_nil, Nat.reduceAdd, Nat.reduceSub, Array.replicate_succ, Array.replicate_zero, List.push_toArray, List.append_toArray, List.nil_append, List.cons_append]
  have hdd : ∀ k : Nat, (Fence.wide.depth.isSome = true → 1 ≤ k) := fun k h => by cases h
  cases ps with
  | nil =>
    rw [metV_nil] at hN ⊢
    obtain ⟨fn, tmps, assign, body, hy, hRd⟩ := met_one HR.out 2 _ HO.out HI.out pre _ (HR.out.keeps _ _ _ HJ.out W1.out) (by simpa using hN)
    dsimp only [T.arg, T.cells] at hy
    gi_wp2_with ((try refine ⟨hdd _, ?_⟩); refine hRd.mono ?_; clear hRd; rintro e W3 (⟨rfl, b3, q3, hq3, hj3⟩ | ⟨rfl, q3, hq3, hj3⟩))
    · go_ret
      exact .inl ⟨rfl, (Keep.of_below HLO.out.lt HW.out.size (below1 _ _)).trans b3, q3, hq3, hj3⟩
    · go_ret
      exact .inr ⟨rfl, q3, hq3, hj3⟩
  | cons p r =>
    obtain ⟨b, o, rfl, hc, hpo⟩ := HP.out.head
    simp only [List.length_cons] at hlen ⊢
    have hcap : r.length + 1 ≤ pc := HP.out.cap.1
    have hcap2 := HP.out.cap.2
    have hsz := HW.out.size
    have q1 := row_cells (heap_alloc_new W (.cells #[.int .i64 kx, .int .i64 nx, .string sx, .slice lax lx.length lcx, .slice dax dx.length dcx] 31))
    have q3 : (W.alloc (.cells #[.int .i64 kx, .int .i64 nx, .string sx, .slice lax lx.length lcx, .slice dax dx.length dcx] 31)).cell? ⟨b, o, none⟩ = some (.string p) := ((HW.out.alloc hsz _).cell (cell_lt hc)).trans hc
    have hJ1 := Lib.hid (HR.out.keeps _ _ _ HJ.out W1.out)
    have hW1 := Lib.hid (HW.out.alloc hsz (.cells #[.int .i64 kx, .int .i64 nx, .string sx, .slice lax lx.length lcx, .slice dax dx.length dcx] 31))
    have hLO1 := Lib.hid (HLO.out.below W1.out)
    have hB1 := Lib.hid (Keep.of_below (n := w0.heap.size) (B := B) (W' := W.alloc (.cells #[.int .i64 kx, .int .i64 nx, .string sx, .slice lax lx.length lcx, .slice dax dx.length dcx] 31)) HLO.out.lt hsz (below1 W (.cells #[.int .i64 kx, .int .i64 nx, .string sx, .slice lax lx.length lcx, .slice dax dx.length dcx] 31)))
    have HN := Lib.hid hN
    have HS := Lib.hid (stand_any (T.mk kx nx sx lax lcx lx dax dcx dx) HO.out p)
    have q2 := Lib.hid (heap_alloc_new W (.cells #[.int .i64 kx, .int .i64 nx, .string sx, .slice lax lx.length lcx, .slice dax dx.length dcx] 31))
    have hlb := Lib.hid (lblk_below HLO.out.lt W1.out)
    clear hc hN W1
    by_cases h6 : kx = 6
    · subst h6
      have HIN := Lib.hid (fun (x : T) (hx : x ∈ lx) => (show x.In w0 by
        obtain ⟨i, hi⟩ := List.getElem?_of_mem hx
        exact kid_in (j := i) HI.out (by rw [kidT, if_neg (by omega)]; exact hi)))
      have HMV := Lib.hid (met_list nx sx (lx.map T.val) (dx.map fun f => (f.1, f.2.val)) p r)
      rw [← T.val_mk 6 nx sx lax lcx lx dax dcx dx] at HMV
      rcases stand_child (T.mk 6 nx sx lax lcx lx dax dcx dx) p with ⟨s1, s2⟩ | ⟨j, y, s1, s2, s3⟩
      · rw [s1] at HS
        rw [s2] at HMV
        clear s1 s2
        gi_wp2
        generalize W.alloc (.cells #[.int .i64 6, .int .i64 nx, .string sx, .slice lax lx.length lcx, .slice dax dx.length dcx] 31) = W1 at q1 q2 q3 hJ1 hW1 hB1 hLO1 hlb ⊢
        refine wpIn_wide.2 ?_
        go_still_tail 4, (by kernel_rfl)
        change wpList _ _ _ _ _ W1.drew
        go_wp2_with (go_at_call 42; refine (HS.out W1.drew (HI.out.below (Nat.le_refl _) hW1.out).drew').mono ?_; rintro e w1 ⟨rfl, b1'⟩; have b1 := drew_below b1'; clear b1'; have hJ2 := Lib.hid (HR.out.keeps _ _ _ hJ1.out b1); have hq1 := row_cells (row_then q2.out b1); have hr1 := Lib.hid (row_then q2.out b1); have hb1 := Lib.hid b1; have hW2 := Lib.hid (hW1.out.trans (b1.mono hW1.out.size)); have hLO2 := Lib.hid (hLO1.out.below b1); have hB2 := Lib.hid (hB1.out.trans (Keep.of_below hLO1.out.lt hW1.out.size b1)))
        have HE := meetEach_any w0 B l N J Jx HR.out lax lcx lx HI.out.parts.1 hl2 OKL.out (fun x hx => IHL.out x hx (HIN.out x hx)) (p :: r) (some ⟨b, o, none⟩) pc pre w1 HP.out hW2.out hLO2.out hJ2.out (by have := HN.out; rw [HMV.out, List.length_append] at this; omega)
        replace HE := Lib.hid HE
        clear b1 q1 q3
        gi_wp2
        refine ⟨trivial, (callsIn_wide.2 HE.out).mono ?_⟩
        clear HE
        rintro e W3 (⟨rfl, b3, q4, hq4, hj4⟩ | ⟨rfl, q4, hq4, hj4⟩)
        · gi_wp2
          refine wpIn_wide.2 ?_
          refine wp_region_still_tail 11 (by kernel_rfl) (by kernel_rfl) ?_
          simp only [List.take_succ_cons, List.take_zero, List.drop_succ_cons, List.drop_zero]
          still_step
          still_step
          refine wpStill_step (fun K hK => ?_)
          refine still_val (.bool true) rfl rfl ?_
          generalize hA : Act.put _ _ _ = a9
          refine hK a9 ?_
          refine still_drop 2 30 rfl _ a9 (by decide) (by rw [← hA]; rfl) ?_
          rw [← hA]
          clear hK K hA
          simp only [List.foldl_cons, List.foldl_nil, Act.put, List.setIfInBounds_toArray, List.set_cons_succ, List.set_cons_zero]
          change wpList _ _ _ _ _ W3.drew
          go_wp2_with fail
          gi_wp2
          go_ret
          exact .inl ⟨rfl, (hB2.out.trans b3).trans (Keep.of_below (hLO2.out.keep b3).lt (Nat.le_trans hW2.out.size b3.below.size) (Below.drew (Below.refl _ W3))), q4, by rw [hq4, HMV.out, List.append_nil], HR.out.keeps _ _ _ hj4 (Below.drew (Below.refl _ W3))⟩
        · gi_wp2
          go_ret
          refine .inr ⟨rfl, q4, ?_, hj4⟩
          rw [HMV.out]
          exact hq4.trans (List.prefix_append _ _)
      · rw [s1] at HS
        rw [s2] at HMV
        rw [kidT, if_neg (by omega)] at s3
        have hj : j < lx.length := lt_of_get s3
        have HYG := Lib.hid s3
        have HM := Lib.hid (IHL.out _ (List.mem_of_getElem? s3) (HIN.out _ (List.mem_of_getElem? s3)))
        clear s1 s2 s3
        gi_wp2
        generalize W.alloc (.cells #[.int .i64 6, .int .i64 nx, .string sx, .slice lax lx.length lcx, .slice dax dx.length dcx] 31) = W1 at q1 q2 q3 hJ1 hW1 hB1 hLO1 hlb ⊢
        refine wpIn_wide.2 ?_
        go_still_tail 4, (by kernel_rfl)
        change wpList _ _ _ _ _ W1.drew
        go_wp2_with (go_at_call 42; refine (HS.out W1.drew (HI.out.below (Nat.le_refl _) hW1.out).drew').mono ?_; rintro e w1 ⟨rfl, b1'⟩; have b1 := drew_below b1'; clear b1'; have hJ2 := Lib.hid (HR.out.keeps _ _ _ hJ1.out b1); have hq1 := row_cells (row_then q2.out b1); have hr1 := Lib.hid (row_then q2.out b1); have hb1 := Lib.hid b1; have hW2 := Lib.hid (hW1.out.trans (b1.mono hW1.out.size)); have hLO2 := Lib.hid (hLO1.out.below b1); have hB2 := Lib.hid (hB1.out.trans (Keep.of_below hLO1.out.lt hW1.out.size b1)))
        have HE := meetEach_any w0 B l N J Jx HR.out lax lcx lx HI.out.parts.1 hl2 OKL.out (fun x hx => IHL.out x hx (HIN.out x hx)) (p :: r) (some ⟨b, o, none⟩) pc pre w1 HP.out hW2.out hLO2.out hJ2.out (by have := HN.out; rw [HMV.out, List.length_append] at this; omega)
        replace HE := Lib.hid HE
        clear b1 q1 q3
        gi_wp2
        refine ⟨trivial, (callsIn_wide.2 HE.out).mono ?_⟩
        clear HE
        rintro e W3 (⟨rfl, b3, q4, hq4, hj4⟩ | ⟨rfl, q4, hq4, hj4⟩)
        · gi_wp2
          obtain ⟨bd, od, k', n', s', la', lc', l', da', dc', d', rfl, hx, hix, x0, x1, x2, x3, x4⟩ := (HI.out.parts.1.below (Nat.le_refl _) (hW2.out.trans b3.below)).five hj
          cases HYG.out.symm.trans hx
          have hz1 := row_cells (b3.same _ _ hr1.out rfl (by have := HLO.out.lt; omega) (fun e => by have h1 := lblk_below hLO1.out.lt hb1.out; rw [h1] at e; rw [hlb.out] at e; have := HLO.out.fits _ e; omega))
          have hj0 : ¬ ((j : Int) < 0) := by omega
          have hj0b : decide ((j : Int) < 0) = false := decide_eq_false hj0
          have hj1 : (1 : Int) ≤ (r.length : Int) + 1 := by omega
          have HNN := Lib.hid (show (pre ++ q4).length + (metV (T.mk k' n' s' la' lc' l' da' dc' d').val r).length ≤ N by
            have h1 := HN.out
            rw [HMV.out, ← hq4] at h1
            simp only [List.length_append, valsOf, List.length_map] at h1 ⊢
            omega)
          clear hx hix
          by_cases hpc : pc = 1
          · subst hpc
            have HPT := Lib.hid (HP.out.last (some ⟨b, o, none⟩)).2
            obtain rfl := (HP.out.last (some ⟨b, o, none⟩)).1
            simp only [List.length_nil, Nat.zero_add, Int.zero_add, Int.cast_ofNat_Int]
            refine wpIn_wide.2 ?_
            refine wp_region_still_tail 11 (by kernel_rfl) (by kernel_rfl) ?_
            simp only [List.take_succ_cons, List.take_zero, List.drop_succ_cons, List.drop_zero]
            still_step
            still_step
            refine wpStill_step (fun K hK => ?_)
            refine still_val (.bool false) rfl rfl ?_
            generalize hA : Act.put _ _ _ = a9
            refine hK a9 ?_
            refine still_strip 2 30 rfl _ a9 (by decide) (by rw [← hA]; rfl) ?_
            rw [← hA]
            clear hK K hA
            simp only [List.map_cons, List.map_nil, Act.put, List.setIfInBounds_toArray, List.set_cons_succ, List.set_cons_zero]
            repeat still_step
            try refine wpStill_nil ?_
            change wpList _ _ _ _ _ W3.drew
            go_wp2_with (go_at_call 64; refine (HM.out _ (some ⟨b, o, none⟩) 0 (pre ++ q4) W3.drew HPT.out ((hW2.out.trans b3.below).drew) ((hLO2.out.keep b3).below (Below.drew (Below.refl _ W3))) (HR.out.keeps _ _ _ hj4 (Below.drew (Below.refl _ W3))) HNN.out).mono ?_; rintro e W4 (⟨rfl, b5, q5, hq5, hj5⟩ | ⟨rfl, q5, hq5, hj5⟩))
            · gi_wp2
              go_ret
              exact MeetTo.pre ((hB2.out.trans b3).trans (Keep.of_below (hLO2.out.keep b3).lt (Nat.le_trans hW2.out.size b3.below.size) (Below.drew (Below.refl _ W3)))) (.inl ⟨rfl, b5, q4 ++ q5, by rw [valsOf_append, hq4, hq5, HMV.out], by rw [← List.append_assoc]; exact hj5⟩)
            · gi_wp2
              go_ret
              refine .inr ⟨rfl, q4 ++ q5, ?_, by rw [← List.append_assoc]; exact hj5⟩
              rw [valsOf_append, hq4, HMV.out]
              exact (List.prefix_append_right_inj _).2 hq5
          · have HPT := Lib.hid HP.out.tail
            refine wpIn_wide.2 ?_
            refine wp_region_still_tail 11 (by kernel_rfl) (by kernel_rfl) ?_
            simp only [List.take_succ_cons, List.take_zero, List.drop_succ_cons, List.drop_zero]
            still_step
            still_step
            refine wpStill_step (fun K hK => ?_)
            refine still_val (.bool false) rfl rfl ?_
            generalize hA : Act.put _ _ _ = a9
            refine hK a9 ?_
            refine still_strip 2 30 rfl _ a9 (by decide) (by rw [← hA]; rfl) ?_
            rw [← hA]
            clear hK K hA
            simp only [List.map_cons, List.map_nil, Act.put, List.setIfInBounds_toArray, List.set_cons_succ, List.set_cons_zero]
            repeat still_step
            try refine wpStill_nil ?_
            change wpList _ _ _ _ _ W3.drew
            go_wp2_with (go_at_call 64; refine (HM.out r (some ⟨b, o + 1, none⟩) (pc - 1) (pre ++ q4) W3.drew HPT.out ((hW2.out.trans b3.below).drew) ((hLO2.out.keep b3).below (Below.drew (Below.refl _ W3))) (HR.out.keeps _ _ _ hj4 (Below.drew (Below.refl _ W3))) HNN.out).mono ?_; rintro e W4 (⟨rfl, b5, q5, hq5, hj5⟩ | ⟨rfl, q5, hq5, hj5⟩))
            · gi_wp2
              go_ret
              exact MeetTo.pre ((hB2.out.trans b3).trans (Keep.of_below (hLO2.out.keep b3).lt (Nat.le_trans hW2.out.size b3.below.size) (Below.drew (Below.refl _ W3)))) (.inl ⟨rfl, b5, q4 ++ q5, by rw [valsOf_append, hq4, hq5, HMV.out], by rw [← List.append_assoc]; exact hj5⟩)
            · gi_wp2
              go_ret
              refine .inr ⟨rfl, q4 ++ q5, ?_, by rw [← List.append_assoc]; exact hj5⟩
              rw [valsOf_append, hq4, HMV.out]
              exact (List.prefix_append_right_inj _).2 hq5
        · gi_wp2
          go_ret
          refine .inr ⟨rfl, q4, ?_, hj4⟩
          rw [HMV.out]
          exact hq4.trans (List.prefix_append _ _)
    · have h6b : ((kx : Int) == 6) = false := by simp [h6]
      have HMV := Lib.hid (show metV (T.mk kx nx sx lax lcx lx dax dcx dx).val (p :: r) = match childV (T.mk kx nx sx lax lcx lx dax dcx dx).val p with | some x => metV x r | none => [zeroV] by
        rw [T.val_mk, metV, if_neg h6, childV]
        by_cases h5 : kx = 5
        · rw [if_pos h5, if_pos h5, metFind_find]
          cases findD (dx.map fun f => (f.1, f.2.val)) p <;> rfl
        · rw [if_neg h5, if_neg h5, if_neg h6])
      rcases stand_child (T.mk kx nx sx lax lcx lx dax dcx dx) p with ⟨s1, s2⟩ | ⟨j, y, s1, s2, s3⟩
      · rw [s1] at HS
        rw [s2] at HMV
        clear s1 s2
        gi_wp2
        generalize W.alloc (.cells #[.int .i64 kx, .int .i64 nx, .string sx, .slice lax lx.length lcx, .slice dax dx.length dcx] 31) = W1 at q1 q2 q3 hJ1 hW1 hB1 hLO1 hlb ⊢
        refine wpIn_wide.2 ?_
        go_still_tail 4, (by kernel_rfl)
        change wpList _ _ _ _ _ W1.drew
        go_wp2_with (go_at_call 42; refine (HS.out W1.drew (HI.out.below (Nat.le_refl _) hW1.out).drew').mono ?_; rintro e w1 ⟨rfl, b1'⟩; have b1 := drew_below b1'; clear b1'; have hJ2 := Lib.hid (HR.out.keeps _ _ _ hJ1.out b1); have hq1 := row_cells (row_then q2.out b1); have hr1 := Lib.hid (row_then q2.out b1); have hb1 := Lib.hid b1; have hW2 := Lib.hid (hW1.out.trans (b1.mono hW1.out.size)); have hLO2 := Lib.hid (hLO1.out.below b1); have hB2 := Lib.hid (hB1.out.trans (Keep.of_below hLO1.out.lt hW1.out.size b1)))
        obtain ⟨fn, tmps, assign, body, hy, hRd⟩ := met_one HR.out 2 zeroT zero_ok (zero_in _) pre _ hJ2.out (by have := HN.out; rw [HMV.out] at this; simpa using this)
        change (Instr.yield l #[.agg #[.int .i64 0, .int .i64 0, .string ⟨#[]⟩, .slice none 0 0, .slice none 0 0]]).run _ _ = _ at hy
        clear b1
        gi_wp2_with ((try refine ⟨hdd _, ?_⟩); refine hRd.mono ?_; clear hRd; rintro e W3 (⟨rfl, b3, q3, hq3, hj3⟩ | ⟨rfl, q3, hq3, hj3⟩))
        · go_ret
          exact MeetTo.pre hB2.out (.inl ⟨rfl, b3, q3, by rw [hq3, HMV.out, zero_val], hj3⟩)
        · go_ret
          exact .inr ⟨rfl, q3, by rw [HMV.out, ← zero_val]; exact hq3, hj3⟩
      · have h5 : kx = 5 := by
          have := kid_kind s1 s3
          rw [T.val_mk, kindV] at this
          omega
        subst h5
        rw [s1] at HS
        rw [s2] at HMV
        rw [kidT, if_pos rfl, Option.map_eq_some_iff] at s3
        obtain ⟨⟨fy, y'⟩, hyy, rfl⟩ := s3
        have hj : j < dx.length := lt_of_get hyy
        have HYG := Lib.hid hyy
        have HM := Lib.hid (IHD.out _ (List.mem_of_getElem? hyy) (kid_in (x := y') (j := j) HI.out (by rw [kidT, if_pos rfl, hyy]; rfl)))
        clear hyy s1 s2
        gi_wp2
        generalize W.alloc (.cells #[.int .i64 5, .int .i64 nx, .string sx, .slice lax lx.length lcx, .slice dax dx.length dcx] 31) = W1 at q1 q2 q3 hJ1 hW1 hB1 hLO1 hlb ⊢
        refine wpIn_wide.2 ?_
        go_still_tail 4, (by kernel_rfl)
        change wpList _ _ _ _ _ W1.drew
        go_wp2_with (go_at_call 42; refine (HS.out W1.drew (HI.out.below (Nat.le_refl _) hW1.out).drew').mono ?_; rintro e w1 ⟨rfl, b1'⟩; have b1 := drew_below b1'; clear b1'; have hJ2 := Lib.hid (HR.out.keeps _ _ _ hJ1.out b1); have hq1 := row_cells (row_then q2.out b1); have hr1 := Lib.hid (row_then q2.out b1); have hb1 := Lib.hid b1; have hW2 := Lib.hid (hW1.out.trans (b1.mono hW1.out.size)); have hLO2 := Lib.hid (hLO1.out.below b1); have hB2 := Lib.hid (hB1.out.trans (Keep.of_below hLO1.out.lt hW1.out.size b1)))
        have HNN := Lib.hid (show pre.length + (metV y'.val r).length ≤ N by have := HN.out; rw [HMV.out] at this; exact this)
        gi_wp2
        obtain ⟨bd, od, fx, k', n', s', la', lc', l', da', dc', d', rfl, hx, hix, x0, x1, x2, x3, x4, x5⟩ := (HI.out.parts.2.below (Nat.le_refl _) hW2.out).six hj
        cases HYG.out.symm.trans hx
        have hj0 : ¬ ((j : Int) < 0) := by omega
        have hj1 : (1 : Int) ≤ (r.length : Int) + 1 := by omega
        clear q1 q3 b1 hx hix x0
        by_cases hpc : pc = 1
        · subst hpc
          have HPT := Lib.hid (HP.out.last (some ⟨b, o, none⟩)).2
          obtain rfl := (HP.out.last (some ⟨b, o, none⟩)).1
          simp only [List.length_nil, Nat.zero_add, Int.zero_add, Int.cast_ofNat_Int]
          refine wpIn_wide.2 ?_
          go_still_tail 9, (by kernel_rfl)
          change wpList _ _ _ _ _ w1.drew
          go_wp2_with (go_at_call 64; refine (HM.out _ (some ⟨b, o, none⟩) 0 pre w1.drew HPT.out (hW2.out.drew) (hLO2.out.below (Below.drew (Below.refl _ w1))) (HR.out.keeps _ _ _ hJ2.out (Below.drew (Below.refl _ w1))) HNN.out).mono ?_; rintro e W3 (⟨rfl, b3, q3, hq3, hj3⟩ | ⟨rfl, q3, hq3, hj3⟩))
          · gi_wp2
            go_ret
            exact MeetTo.pre (hB2.out.trans (Keep.of_below hLO2.out.lt hW2.out.size (Below.drew (Below.refl _ w1)))) (.inl ⟨rfl, b3, q3, by rw [hq3, HMV.out], hj3⟩)
          · gi_wp2
            go_ret
            exact .inr ⟨rfl, q3, by rw [HMV.out]; exact hq3, hj3⟩
        · have HPT := Lib.hid HP.out.tail
          refine wpIn_wide.2 ?_
          go_still_tail 9, (by kernel_rfl)
          change wpList _ _ _ _ _ w1.drew
          go_wp2_with (go_at_call 64; refine (HM.out r (some ⟨b, o + 1, none⟩) (pc - 1) pre w1.drew HPT.out (hW2.out.drew) (hLO2.out.below (Below.drew (Below.refl _ w1))) (HR.out.keeps _ _ _ hJ2.out (Below.drew (Below.refl _ w1))) HNN.out).mono ?_; rintro e W3 (⟨rfl, b3, q3, hq3, hj3⟩ | ⟨rfl, q3, hq3, hj3⟩))
          · gi_wp2
            go_ret
            exact MeetTo.pre (hB2.out.trans (Keep.of_below hLO2.out.lt hW2.out.size (Below.drew (Below.refl _ w1)))) (.inl ⟨rfl, b3, q3, by rw [hq3, HMV.out], hj3⟩)
          · gi_wp2
            go_ret
            exact .inr ⟨rfl, q3, by rw [HMV.out]; exact hq3, hj3⟩
end Go.Proofs.YtkklnfihjikilaaDoor
