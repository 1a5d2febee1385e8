/- The program's Open of a page. No statement is proved here. -/
import Derived.Test.YtlpnhfceblbllaaDoorGMk3
namespace Go.Proofs.YtlpnhfceblbllaaDoor
open Go.RowKit
set_option maxRecDepth 100000

theorem cutB_len {l : List Int} {a s : Nat} (h : a + s ≤ l.length) : (cutB l a s).length = s := by
  unfold cutB
  rw [List.length_take, List.length_drop]
  omega
theorem isB_cut {l : List Int} (h : isB l) (a s : Int) : isB (cutB l a s) := (h.drop a.toNat).take' s.toNat
theorem InB.cut {w : World} {b o : Nat} {l : List Int} (h : InB w (some ⟨b, o, none⟩) l) (a s : Nat) : InB w (some ⟨b, o + a, none⟩) (cutB l a s) := by
  unfold cutB
  rw [Int.toNat_natCast, Int.toNat_natCast]
  exact (h.from a).take_ s
theorem cut_one {l : List Int} {k : Nat} {x : Int} (h : l[k]? = some x) : valB (cutB l k (1 : Nat)) = x := by
  unfold cutB
  rw [Int.toNat_natCast, Int.toNat_natCast]
  have hl := (List.getElem?_eq_some_iff.1 h)
  obtain ⟨hl, e⟩ := hl
  rw [List.drop_eq_getElem_cons hl, e]
  show valB [x] = x
  simp [valB]
/-- told of a part of a page. -/
theorem ltold_cut {w : World} {b o c : Nat} {l : List Int} (ha : InB w (some ⟨b, o, none⟩) l) (hB : isB l) (a s : Nat) (h1 : 1 ≤ s) (h7 : s ≤ 7) (hl : a + s ≤ l.length) (hc : s ≤ c) :
    Calls Tryd.prog 32 #[.slice (some ⟨b, o + a, none⟩) s c] w fun e w' => e = .returned (.int .i64 (valB (cutB l a s))) ∧ w = w' :=
  ltold_any _ c s (cutB l a s) w (ha.cut a s) (isB_cut hB _ _) (cutB_len hl) hc h1 h7
/-- 'copy(b[k:], x)' into such a row, x the longer one. -/
theorem cpG {ops : Array Oper} {rest : List Oper} {o : Oper} {a : Act} {w : World} {Q : Exit → Act → World → Prop} (hgd : o.guard = none) (d s : Operand)
    (ho : o.op = .call { callee := .builtin .copy, args := #[d, s], argTypes := #[22, 22] }) (g k n c : Nat) (L : List Int) (hf : FullAt w g L) (hd : a.eval d = .slice (some ⟨g, k, none⟩) n c)
    (ax : Option Addr) (m cx : Nat) (xs : List Int) (hs : a.eval s = .slice ax m cx) (hm : xs.length = n) (hmn : n ≤ m) (hin : InB w ax xs) (hk : k + n ≤ L.length) (B : Nat) (w0 : World) (hb : Below B w0 w) (hB : B ≤ g)
    (h : ∀ w', Hid (FullAt w' g (spl L k xs)) → Below B w0 w' → wpList Tryd.prog ops Q rest (a.put o.dst (goInt n)) w') : wpList Tryd.prog ops Q (o :: rest) a w := by
  refine wpList_copy_splice hgd d s 22 22 ho 5 Tryd.underlying22 (by kernel_rfl) _ _ n c m cx hd hs g k (btV L) 5 hf (btV xs) (by rw [btV_len, hm]; exact (Nat.min_eq_right hmn).symm) (fun hp => ?_) (by rw [btV_len, btV_len, hm]; exact hk) (bt_one _) B w0 hb hB ?_
  · rw [btV_len] at hp
    exact ⟨rfl, hin.src (Below.refl _ _) hp⟩
  · intro w' hg hb'
    rw [btV_len, hm]
    exact h w' (Lib.hid (by unfold FullAt; rw [← splice_bt]; exact hg.out)) hb'
theorem spl_all {n : Nat} {xs : List Int} (h : xs.length = n) : spl (zB n) 0 xs = xs := by
  unfold spl
  rw [List.take_zero, List.nil_append, List.drop_eq_nil_of_le (by rw [zB_len]; omega), List.append_nil]
theorem OpenTo.badB {l : List Int} {number : Int} {w w' : World} {n : Int} (h : openE l number = n) (hn : n ≠ 0) (hb : Below w.heap.size w w') : OpenTo l number w (.returned (.tuple #[.int .i64 0, .slice none 0 0, .int .i64 n])) w' := by
  obtain ⟨v, e, h1, -⟩ := OpenTo.bad (w := w) h hn
  exact ⟨v, e, h1.then_ hb, hb⟩
set_option maxHeartbeats 4000000 in
theorem lopen_any (number : Int) (la : Option Addr) (n c : Nat) (l : List Int) (w : World) (ht : Tab16 w) (h1 : okInt number) (hin : InB w la l) (hB : isB l) (hn : l.length = n) (hc : n ≤ c) :
    Calls Tryd.prog 14 #[.slice la n c, .int .i64 number] w (OpenTo l number w) := by
  by_cases hz : n = 4096
  · obtain ⟨b, o, x0, rfl, -, -⟩ := hin.one (i := 0) (by omega)
    subst hz
    have hadd : ∀ k, (⟨b, o, none⟩ : Addr).add k = ⟨b, o + k, none⟩ := fun k => by unfold Addr.add; split <;> simp_all
    have hmap : ∀ k, Option.map (fun x : Addr => x.add k) (some ⟨b, o, none⟩) = some ⟨b, o + k, none⟩ := fun k => by rw [Option.map_some, hadd]
    obtain ⟨b8, o8, x8, e8, hx8, y8⟩ := hin.one (i := 8) (by omega)
    have hb8 := hB.at' hx8
    have hk8 : kindG l = x8 := by unfold kindG; rw [List.getD_eq_getElem?_getD, hx8]; rfl
    clear y8 e8 b8 o8
    have hinD : InB w.drew (some ⟨b, o, none⟩) l := hin.then_ (Below.refl _ w).drew
    obtain ⟨sm, hsm⟩ : ∃ sm, sm = moreP 0 (l.drop 4) := ⟨_, rfl⟩
    obtain ⟨td, htd⟩ : ∃ td, td = valB (cutB l 0 4) := ⟨_, rfl⟩
    obtain ⟨nb, hnb⟩ : ∃ nb, nb = valB (cutB l 4 4) := ⟨_, rfl⟩
    obtain ⟨lg, hlg⟩ : ∃ lg, lg = lenG l := ⟨_, rfl⟩
    have hlr := lenG_rng hB
    rw [← hlg] at hlr
    have HS := Lib.hid (more0_any (some ⟨b, o + 4, none⟩) (c - 4) 4092 (l.drop 4) w.drew (fun i hi => ((Below.refl w.heap.size w).drew.cell (p := ⟨1, i, none⟩) (cell_lt (ht i hi))).trans (ht i hi)) (hinD.from 4) (hB.drop 4) (by rw [List.length_drop, hn]) (by omega))
    rw [← hsm] at HS
    have HR1 := Lib.hid (ltold_cut (c := c) hinD hB 0 4 (by omega) (by omega) (by omega) (by omega))
    have e00 : valB (cutB l ((0 : Nat) : Int) ((4 : Nat) : Int)) = td := htd.symm
    rw [e00] at HR1
    have HE := Lib.hid (show openE l number = if sm = td then if nb = number then if x8 = 0 ∨ 4085 < lg then 122 else if clean l then 0 else 122 else 121 else 120 by unfold openE; rw [if_pos hn, hsm, htd, hnb, hlg, hk8])
    have HA := Lib.hid (And.intro hin (And.intro hB (And.intro hn (And.intro hlg (And.intro hk8 (And.intro hnb hx8))))))
    clear hin hB hn hsm htd hnb hlg hk8 hx8 hadd ht hinD
    unfold okInt at h1
    have c4 : (4 : Int) ≤ (c : Int) := by omega
    have c8 : (8 : Int) ≤ (c : Int) := by omega
    have c9 : (9 : Int) ≤ (c : Int) := by omega
    have c11 : (11 : Int) ≤ (c : Int) := by omega
    have d4 : ¬ c = 4 := by omega
    have d8 : ¬ c = 8 := by omega
    have d9 : ¬ c = 9 := by omega
    have d11 : ¬ c = 11 := by omega
    go_enter Tryd.func14, Tryd.ntmps14
    go_wp2_with fail
    go_region_law (first
      | (refine step_call (o := { dst := some 15, op := _, type := _, pos := _, after := _, guard := none }) rfl 32 #[.slice (some ⟨b, o, none⟩) 4 c] (by go_simp) (HR1.out.mono ?_); rintro e w' ⟨rfl, rfl⟩; refine ⟨_, rfl, ?_⟩)
      | (refine step_call (o := { dst := some 18, op := _, type := _, pos := _, after := _, guard := none }) rfl 29 #[.slice (some ⟨b, o + 4, none⟩) 4092 (c - 4)] (by go_simp) (HS.out.mono ?_); rintro e w' ⟨rfl, rfl⟩; refine ⟨_, rfl, ?_⟩))
    have B1 := Lib.hid (Below.refl w.heap.size w).drew
    have hin1 : InB w.drew (some ⟨b, o, none⟩) l := HA.out.1.then_ (Below.refl _ w).drew
    generalize w.drew = w1 at B1 hin1 ⊢
    have HI1 := Lib.hid hin1
    clear hin1 HS HR1 e00
    by_cases e1 : sm = td
    · have q1 : (td != sm) = false := by simp [e1]
      have HR2 := Lib.hid (ltold_cut (c := c - 4) HI1.out HA.out.2.1 4 4 (by omega) (by omega) (by rw [HA.out.2.2.1]; omega) (by omega))
      have e00 : valB (cutB l ((4 : Nat) : Int) ((4 : Nat) : Int)) = nb := HA.out.2.2.2.2.2.1.symm
      rw [e00] at HR2
      go_wp2_with fail
      refine HR2.out.mono ?_
      rintro e w' ⟨rfl, rfl⟩
      by_cases e2 : nb = number
      · have q2 : (nb != number) = false := by simp [e2]
        have HR3 := Lib.hid (ltold_cut (c := c - 8) (HI1.out.then_ (Below.refl _ w1).drew) HA.out.2.1 8 1 (by omega) (by omega) (by rw [HA.out.2.2.1]; omega) (by omega))
        have HR4 := Lib.hid (ltold_cut (c := c - 9) (HI1.out.then_ (Below.refl _ w1).drew) HA.out.2.1 9 2 (by omega) (by omega) (by rw [HA.out.2.2.1]; omega) (by omega))
        rw [cut_one HA.out.2.2.2.2.2.2] at HR3
        have e92 : valB (cutB l ((9 : Nat) : Int) ((2 : Nat) : Int)) = lg := HA.out.2.2.2.1.symm
        rw [e92] at HR4
        go_wp2_with fail
        go_region_law (first
          | (refine step_call (o := { dst := some 27, op := _, type := _, pos := _, after := _, guard := none }) rfl 32 #[.slice (some ⟨b, o + 8, none⟩) 1 (c - 8)] (by go_simp) (HR3.out.mono ?_); rintro e w' ⟨rfl, rfl⟩; refine ⟨_, rfl, ?_⟩)
          | (refine step_call (o := { dst := some 30, op := _, type := _, pos := _, after := _, guard := none }) rfl 32 #[.slice (some ⟨b, o + 9, none⟩) 2 (c - 9)] (by go_simp) (HR4.out.mono ?_); rintro e w' ⟨rfl, rfl⟩; refine ⟨_, rfl, ?_⟩))
        have B2 := Lib.hid (B1.out.trans (Below.refl w.heap.size w1).drew)
        have HI2 := Lib.hid (HI1.out.then_ (Below.refl _ w1).drew)
        generalize w1.drew = w2 at B2 HI2 ⊢
        have HE2 := HE.out
        rw [if_pos e1, if_pos e2] at HE2
        clear e1 e2 q1 q2 HR2 HR3 HR4 HI1 B1 e00 e92
        by_cases e3 : x8 = 0 ∨ 4085 < lg
        · rw [if_pos e3] at HE2
          have HX := Lib.hid (OpenTo.badB (w := w) HE2 (by omega) B2.out)
          clear HE2
          by_cases e4 : x8 = 0
          · subst e4
            go_wp2_with fail
            go_ret3
            exact HX.out
          · have q4 : (x8 == 0) = false := by simp [e4]
            have e5 : 4085 < lg := by omega
            go_wp2_with fail
            go_ret3
            exact HX.out
        · rw [if_neg e3] at HE2
          have HE3 := Lib.hid HE2
          obtain ⟨lgn, hlgn⟩ := Int.eq_ofNat_of_zero_le hlr.1
          subst hlgn
          have q4 : (x8 == 0) = false := by simp; omega
          have hlg4 : lgn ≤ 4085 := by omega
          have HX8 := Lib.hid (show x8 ≠ 0 by omega)
          clear HE2 e3
          have HEM : Hid (∀ (pa : Option Addr) (ca : Nat), InB w2 pa (l.drop (11 + lgn)) → Calls Tryd.prog 33 #[.slice pa (4096 - (11 + lgn)) ca] w2 fun e w' => e = .returned (.bool (clean l)) ∧ w2 = w') := Lib.hid (fun pa ca h => by
            have h2 := lempty_any pa ca (4096 - (11 + lgn)) (l.drop (11 + lgn)) w2 h (HA.out.2.1.drop _) (by rw [List.length_drop, HA.out.2.2.1]) (by omega)
            have e : clean l = (l.drop (11 + lgn)).all (· == 0) := by
              unfold clean
              rw [← HA.out.2.2.2.1, Int.toNat_natCast]
            rw [e]
            exact h2)
          have hmk : ∀ w : World, (Instr.makeSlice 22 (.int .i64 (lgn : Int)) (.int .i64 (lgn : Int))).run Tryd.prog w = .ok (.slice (some ⟨w.heap.size, 0, none⟩) lgn lgn) (w.alloc (.cells (zeroV lgn).toArray 5)) := fun w => make_zero lgn (by omega) w
          go_wp2_with fail
          all_goals
            refine (HEM.out _ _ (by first
              | exact HI2.out.from (11 + lgn)
              | (have e : l.drop (11 + lgn) = [] := List.drop_eq_nil_of_le (by rw [HA.out.2.2.1]; omega)
                 rw [e]
                 intro i x hx
                 cases hx))).mono ?_
            rintro e w' ⟨rfl, rfl⟩
            cases hcl : clean l
            · have HX := Lib.hid (OpenTo.badB (w := w) (n := 122) (HE3.out.trans (by rw [hcl]; rfl)) (by omega) B2.out)
              clear hcl
              go_wp2_with fail
              go_ret3
              exact HX.out
            · have hE0 : Hid (openE l number = 0) := Lib.hid (by rw [HE3.out, if_pos hcl])
              clear hcl
              have HXS := Lib.hid (show ((l.drop 11).take lgn).length = lgn by rw [List.length_take, List.length_drop, HA.out.2.2.1]; omega)
              have HF : Hid (FullAt (w2.alloc (.cells (zeroV lgn).toArray 5)) w2.heap.size (zB lgn)) := Lib.hid (by unfold FullAt; rw [← zeroV_z]; exact heap_alloc_new w2 _)
              have HBB := Lib.hid (B2.out.trans ((below1 w2 (.cells (zeroV lgn).toArray 5)).mono B2.out.size))
              have HIN := Lib.hid (((HI2.out.from 11).take_ lgn).then_ (below1 w2 (.cells (zeroV lgn).toArray 5)))
              have HX : Hid (∀ w5 : World, FullAt w5 w2.heap.size (spl (zB lgn) 0 ((l.drop 11).take lgn)) → Below w.heap.size w w5 → OpenTo l number w (.returned (.tuple #[.int .i64 x8, .slice (some ⟨w2.heap.size, 0, none⟩) lgn lgn, .int .i64 0])) w5) := Lib.hid (fun w5 f5 b5 => by
                refine ⟨.slice (some ⟨w2.heap.size, 0, none⟩) lgn lgn, by unfold openK; rw [if_pos hE0.out, hE0.out, HA.out.2.2.2.2.1], ?_, b5⟩
                rw [spl_all HXS.out] at f5
                have h := f5.own B2.out.size (by rw [HXS.out]; exact Nat.le_trans hlg4 (by decide))
                rw [HXS.out] at h
                unfold openL
                rw [if_pos hE0.out, ← HA.out.2.2.2.1, Int.toNat_natCast]
                exact h)
              go_wp2_with (show wpList _ _ _ (⟨some 50, _, _, _, _, _⟩ :: _) _ _; refine cpG (o := ⟨some 50, _, _, _, _, _⟩) rfl (.tmp 47) (.tmp 49) rfl w2.heap.size 0 lgn lgn (zB lgn) HF.out rfl (some ⟨b, o + 11, none⟩) 4085 _ ((l.drop 11).take lgn) rfl HXS.out hlg4 HIN.out (by rw [zB_len]; omega) w.heap.size w HBB.out B2.out.size ?_; intro w5 f5 b5; have B5 := Lib.hid b5; clear b5)
              go_ret3
              exact HX.out _ f5.out B5.out
      · have q2 : (nb != number) = true := by simp [e2]
        have HX := Lib.hid (OpenTo.badB (w := w) (n := 121) (HE.out.trans (by rw [if_pos e1, if_neg e2])) (by omega) B1.out)
        clear e1 e2
        go_wp2_with fail
        go_ret3
        exact HX.out
    · have q1 : (td != sm) = true := by simp; omega
      have HX := Lib.hid (OpenTo.badB (w := w) (n := 120) (HE.out.trans (by rw [if_neg e1])) (by omega) B1.out)
      clear e1
      go_wp2_with fail
      go_ret3
      exact HX.out
  · have HE : Hid (OpenTo l number w (.returned (.tuple #[.int .i64 0, .slice none 0 0, .int .i64 122])) w) := Lib.hid (OpenTo.bad (by unfold openE; rw [if_neg (by omega)]) (by omega))
    have hz2 : ((n : Int) != 4096) = true := by simp; omega
    clear hn hin hB ht
    go_enter Tryd.func14, Tryd.ntmps14
    go_wp2_with fail
    go_ret3
    exact HE.out
end Go.Proofs.YtlpnhfceblbllaaDoor
