/- The document's own superblock: Read. No statement is proved here. -/
import Derived.Test.YtonjapphhbhcpaaDoorURef5
namespace Go.Proofs.YtonjapphhbhcpaaDoor
open Go.RowKit
set_option maxRecDepth 100000

theorem preB_two (d : Dk) : ∀ k, preB d 0 (8 + k) = pgB d 0 ++ preB d 1 k
  | 0 => by simp [pgB, preB]
  | k + 1 => by
    show preB d 0 (8 + k) ++ d.look (0 * 8 + (8 + k)) = pgB d 0 ++ (preB d 1 k ++ d.look (1 * 8 + k))
    rw [preB_two d k, List.append_assoc]
    congr 3
    omega
theorem preB_16 (d : Dk) : preB d 0 16 = pgB d 0 ++ pgB d 1 := preB_two d 8
theorem srE_low {d : Dk} (h : d.pages < 16) : d.srE = 140 := by unfold Dk.srE; rw [if_pos h]
theorem srE_down {d : Dk} (h : ¬ d.pages < 16) (hd : d.down = true) : d.srE = 5 := by unfold Dk.srE; rw [if_neg h, if_pos hd]
theorem srS_bad {d : Dk} (h : d.srE ≠ 0) : d.srS = Sup.zero := by unfold Dk.srS; rw [if_neg h]
theorem srE_up {d : Dk} (h : ¬ d.pages < 16) (hd : d.down = false) : d.srE = (if chE (pgB d 0) (pgB d 1) = 0 ∧ (chS (pgB d 0) (pgB d 1)).pag = d.pages then 0 else 140) ∧ d.srS = (if d.srE = 0 then chS (pgB d 0) (pgB d 1) else Sup.zero) := by
  refine ⟨?_, rfl⟩
  unfold Dk.srE
  rw [if_neg h, hd]
  rfl
/-- What Read tells, the error as a number. -/
def SRdTo (d : Dk) (w : World) (e : Ending) (w' : World) : Prop := e = .returned (.tuple #[d.srS.arg, .int .i64 d.srE]) ∧ Below w.heap.size w w'
set_option maxHeartbeats 8000000 in
theorem rsrd_any (g : Nat) (w : World) (B N : Nat) (d : Dk) (hb : RefAt w B g d N) (hby : d.byte) (hN : N ≤ 549755813888) :
    Calls Tryd.prog 44 #[.pointer (some ⟨g, 0, none⟩)] w (SRdTo d w) := by
  have HA := Lib.hid (And.intro hb hby)
  have hmany : d.many ≤ 9223372036854775807 := by obtain ⟨-, s, h⟩ := hb; exact h.many
  have hok := hb.1
  have HB := Lib.hid (below1 w (.cells #[.int .i64 0, .int .i64 0, .int .i64 0, .int .i64 0] 23))
  have HX := Lib.hid (heap_alloc_new w (.cells #[.int .i64 0, .int .i64 0, .int .i64 0, .int .i64 0] 23))
  have HPG := Lib.hid (rpages_any g _ B N d (hb.then_ HB.out))
  have hpg : d.pages = (d.many : Int) / 8 := rfl
  have c0 := row_cells HX.out
  clear hb hby
  go_enter Tryd.func44, Tryd.ntmps44
  go_wp2_with fail
  refine HPG.out.mono ?_
  rintro e w1 ⟨rfl, rfl⟩
  by_cases hlow : d.pages < 16
  · have HE := Lib.hid (srE_low hlow)
    go_wp2_with fail
    simp [bodyPost, results, Tryd.results44, go_sem, c0]
    exact ⟨by rw [srS_bad (by rw [HE.out]; decide), HE.out]; rfl, HB.out⟩
  · clear c0
    have HLOW := Lib.hid hlow
    have hm16 : (128 : Int) ≤ d.many := by omega
    have hpg2 : 16 ≤ d.pages := by omega
    clear hlow
    generalize hw1 : w.alloc (.cells #[.int .i64 0, .int .i64 0, .int .i64 0, .int .i64 0] 23) = w1 at *
    have HRA := Lib.hid (HA.out.1.then_ HB.out)
    clear hw1
    go_wp2_with fail
    go_loopw [5, 6, 7, 8] (fun v i _ _ wr => ∃ k : Nat, k ≤ 16 ∧ i = .int .i64 (k : Int) ∧ Hid (Grew w1.heap.size w1 wr (.slice none 0 0) v (preB d 0 k) ∧ (1 ≤ k → d.down = false))) (fun _ i _ _ _ => 16 - (intOf i).toNat)
    case atStart => exact ⟨0, by omega, rfl, Grew.refl (OwnB.nil _ _), fun h => by omega⟩
    case round =>
      obtain ⟨k, hk, rfl, HK⟩ := hrel
      replace HK := Lib.hid HK
      have HBK := Lib.hid (HK.out.1.below (OwnB.nil _ _) (Below.refl _ _) (Nat.le_refl _) (Nat.le_refl _))
      have X3 := Lib.hid (row_then HX.out HBK.out)
      have B3 := Lib.hid (below_then HB.out HBK.out)
      by_cases hlt : k < 16
      · have HR := Lib.hid (rread_any g (k : Int) _ B N d (by unfold okInt; omega) (HRA.out.then_ HBK.out) hN)
        have hre : d.readE (k : Int) = if d.down then 5 else 0 := by unfold Dk.readE; rw [if_pos (show 0 ≤ (k : Int) ∧ (k : Int) < d.many by omega)]
        unfold RReadAt at HR
        rw [hre, Int.toNat_natCast] at HR
        clear hre
        have hpl := preB_len hok 0 k
        cases hdn : d.down
        · rw [hdn, if_neg (by simp)] at HR
          go_wp2_with fail
          refine HR.out.mono ?_
          rintro e w2 ⟨v, rfl, -, hv, hb2⟩
          obtain ⟨g2, c2, rfl, hg2, hg2'⟩ := (hv trivial).form
          rw [hok.look_len]
          have HV := Lib.hid (And.intro (hv trivial) hb2)
          clear hv hb2
          have hsz := HK.out.1.size
          go_wp2_with (at_builtin; show wpList _ _ _ (⟨some 32, _, _, _, _, _⟩ :: _) _ _; refine apR rfl (.tmp 30) (.tmp 31) rfl w1.heap.size _ (preB d 0 k) rfl (HK.out.1.own.then_ HV.out.2) (some ⟨g2, 0, none⟩) 512 c2 (d.look k) rfl (hok.look_len _) (OwnB.row HV.out.1.1) (fun e => by cases e) (by omega) (Nat.le_trans hsz HV.out.2.size) ?_; intro v5 w5 hg5; have G5 := Lib.hid (HK.out.1.trans (hg5.pre HV.out.2)); clear hg5)
          go_roundw
          case rel => exact ⟨k + 1, by omega, by go_num, by have h := G5.out; rw [show preB d 0 (k + 1) = preB d 0 k ++ d.look k by show preB d 0 k ++ d.look (0 * 8 + k) = _; rw [Nat.zero_mul, Nat.zero_add]]; exact h, fun _ => by first | exact hdn | trivial⟩
          case measure => simp [intOf]; omega
        · rw [hdn, if_pos rfl] at HR
          have HE := Lib.hid (srE_down (by have h := HLOW.out; omega) hdn)
          go_wp2_with fail
          refine HR.out.mono ?_
          rintro e w2 ⟨v, rfl, hv, -, hb2⟩
          have B4 := Lib.hid (below_then B3.out hb2)
          have X4 := Lib.hid (row_then X3.out hb2)
          have fr := box_frozen X4.out
          have r0 := row_cells X4.out 0
          have r1 := row_cells X4.out 1
          have r2 := row_cells X4.out 2
          have r3 := row_cells X4.out 3
          clear hv hb2
          go_wp2_with fail
          generalize hV : World.setCell _ _ _ = V
          obtain ⟨t1, t2⟩ := put4V X4.out hV
          have q := row_cells t2
          have HF := Lib.hid ((Only.of_below (S := []) B4.out).then_ t1 (fun z hz => .inr (by rw [List.mem_singleton.1 hz]; exact Nat.le_refl _))).below
          clear hV t1 t2 fr r0 r1 r2 r3
          simp [bodyPost, results, Tryd.results44, go_sem, q]
          exact ⟨by rw [srS_bad (by rw [HE.out]; decide), HE.out]; rfl, HF.out⟩
      · have hk16 : k = 16 := by omega
        subst hk16
        have hdn := HK.out.2 (by omega)
        have HEU := Lib.hid (srE_up (by have h := HLOW.out; omega) hdn)
        have ho := HK.out.1.own
        rw [preB_16] at ho
        have hl0 := pgB_len hok 0
        have hl1 := pgB_len hok 1
        have hl16 : (pgB d 0 ++ pgB d 1).length = 8192 := by rw [List.length_append, hl0, hl1]
        obtain ⟨gb, cb, e, hcb⟩ := ho.form (by rw [hl16]; omega)
        rw [hl16] at e hcb
        subst e
        have hcm : cb ≤ maxLen := by obtain ⟨a2, c2, e2, -, -, -, h2⟩ := ho.shape; injection e2 with _ _ e3; subst e3; exact h2
        have hi := ho.inB
        have hi0 : InB wr (some ⟨gb, 0, none⟩) (pgB d 0) := hi.prefix_
        have hi1 : InB wr (some ⟨gb, 4096, none⟩) (pgB d 1) := by
          have h := hi.from 4096
          rw [List.drop_left' hl0, Nat.zero_add] at h
          exact h
        have HI := Lib.hid (And.intro hi0 hi1)
        have HC := Lib.hid (fun W (hb : Below wr.heap.size wr W) => rchoose_any (some ⟨gb, 0, none⟩) 4096 cb (pgB d 0) (some ⟨gb, 4096, none⟩) 4096 (cb - 4096) (pgB d 1) W (HI.out.1.then_ hb) (preB_byte HA.out.2 0 8) hl0 (by omega) (by omega) (HI.out.2.then_ hb) (preB_byte HA.out.2 1 8) hl1 (by omega) (by omega))
        unfold SChTo at HC
        clear ho hi hi0 hi1 hl0 hl1 hl16 hdn
        generalize chS (pgB d 0) (pgB d 1) = s at *
        generalize chE (pgB d 0) (pgB d 1) = ce at *
        unfold Sup.arg Sup.cells at HC
        have X3b := X3.out
        go_wp2_with fail
        go_region_with (first
          | (go_at_call 18; refine (HC.out _ (Below.refl _ _).drew).mono ?_; rintro e w4 ⟨rfl, b4⟩)
          | (go_at_call 18; refine (HC.out _ (below1 wr (.cells #[.int .i64 0, .int .i64 0, .int .i64 0, .int .i64 0] 23)).drew).mono ?_; rintro e w4 ⟨rfl, b4⟩; have xb := row_then (show ((wr.alloc (.cells #[.int .i64 0, .int .i64 0, .int .i64 0, .int .i64 0] 23)).drew).heap[wr.heap.size]? = some (.cells #[.int .i64 0, .int .i64 0, .int .i64 0, .int .i64 0] 23) from heap_alloc_new wr _) b4; have xb0 := row_cells xb 0; have xb1 := row_cells xb 1; have xb2 := row_cells xb 2; have xb3 := row_cells xb 3; have xf := box_frozen xb; have XB := Lib.hid xb; clear xb))
        all_goals simp only [List.getElem_toArray, List.getElem_cons_succ, List.getElem_cons_zero, Act.put, List.setIfInBounds_toArray, List.set_cons_succ, List.set_cons_zero]
        · have B5 := Lib.hid (below_then (below_then B3.out ((show Below wr.heap.size wr w4 from (Below.refl wr.heap.size wr).drew.trans b4))) (below1 w4 (.cells #[.int .i64 s.ver, .int .i64 s.root, .int .i64 s.ep, .int .i64 s.pag] 23)))
          have X5 := Lib.hid (row_then X3.out (below_then (show Below wr.heap.size wr w4 from (Below.refl wr.heap.size wr).drew.trans b4) (below1 w4 (.cells #[.int .i64 s.ver, .int .i64 s.root, .int .i64 s.ep, .int .i64 s.pag] 23))))
          have S5 := Lib.hid (heap_alloc_new w4 (.cells #[.int .i64 s.ver, .int .i64 s.root, .int .i64 s.ep, .int .i64 s.pag] 23))
          clear b4
          generalize hV : w4.alloc (.cells #[.int .i64 s.ver, .int .i64 s.root, .int .i64 s.ep, .int .i64 s.pag] 23) = V at *
          have fr := box_frozen X5.out
          have r0 := row_cells X5.out 0
          have r1 := row_cells X5.out 1
          have r2 := row_cells X5.out 2
          have r3 := row_cells X5.out 3
          obtain ⟨s0, s1, s2, s3⟩ := box4_cells S5.out
          have hpq : d.pages = (d.many : Int) / 8 := rfl
          by_cases hce : ce = 0
          · by_cases hpp : s.pag = (d.many : Int) / 8
            · have HE : Hid (d.srE = 0 ∧ d.srS = s) := Lib.hid (by
                have h1 : d.srE = 0 := by rw [HEU.out.1, if_pos ⟨hce, hpp⟩]
                exact ⟨h1, by rw [HEU.out.2, if_pos h1]⟩)
              subst hce
              have hpb : (s.pag != (d.many : Int) / 8) = false := by simp [hpp]
              clear hpp hpq
              go_wp2_with fail
              generalize hU : World.setCell _ _ _ = U
              obtain ⟨t1, t2⟩ := put4V X5.out hU
              have q := row_cells t2
              have HF := Lib.hid ((Only.of_below (S := []) B5.out).then_ t1 (fun z hz => .inr (by rw [List.mem_singleton.1 hz]; exact Nat.le_refl _))).below
              clear hU t1 t2 fr r0 r1 r2 r3 s0 s1 s2 s3
              simp [bodyPost, results, Tryd.results44, go_sem, q]
              exact ⟨by rw [HE.out.1, HE.out.2]; rfl, HF.out⟩
            · have HE : Hid (d.srE = 140) := Lib.hid (by rw [HEU.out.1, if_neg (fun h => hpp h.2)])
              subst hce
              have hpb : (s.pag != (d.many : Int) / 8) = true := by simp [hpp]
              clear hpp hpq
              go_wp2_with fail
              generalize hU : World.setCell _ _ _ = U
              obtain ⟨t1, t2⟩ := put4V X5.out hU
              have q := row_cells t2
              have HF := Lib.hid ((Only.of_below (S := []) B5.out).then_ t1 (fun z hz => .inr (by rw [List.mem_singleton.1 hz]; exact Nat.le_refl _))).below
              clear hU t1 t2 fr r0 r1 r2 r3 s0 s1 s2 s3
              simp [bodyPost, results, Tryd.results44, go_sem, q]
              exact ⟨by rw [srS_bad (by rw [HE.out]; decide), HE.out]; rfl, HF.out⟩
          · have HE : Hid (d.srE = 140) := Lib.hid (by rw [HEU.out.1, if_neg (fun h => hce h.1)])
            have hcb : (ce != 0) = true := by simp [hce]
            clear hce hpq
            go_wp2_with fail
            generalize hU : World.setCell _ _ _ = U
            obtain ⟨t1, t2⟩ := put4V X5.out hU
            have q := row_cells t2
            have HF := Lib.hid ((Only.of_below (S := []) B5.out).then_ t1 (fun z hz => .inr (by rw [List.mem_singleton.1 hz]; exact Nat.le_refl _))).below
            clear hU t1 t2 fr r0 r1 r2 r3 s0 s1 s2 s3
            simp [bodyPost, results, Tryd.results44, go_sem, q]
            exact ⟨by rw [srS_bad (by rw [HE.out]; decide), HE.out]; rfl, HF.out⟩
        · have b4' : Below wr.heap.size wr w4 := below_then (below1 wr (.cells #[.int .i64 0, .int .i64 0, .int .i64 0, .int .i64 0] 23)).drew b4
          generalize hV : World.setCell _ _ _ = V
          obtain ⟨t1, t2⟩ := put4V XB.out hV
          have o5 : Below wr.heap.size wr V := ((Only.of_below (S := []) b4').then_ t1 (fun z hz => .inr (by rw [List.mem_singleton.1 hz]; exact Nat.le_refl _))).below
          have B5 := Lib.hid (below_then B3.out o5)
          have X5 := Lib.hid (row_then X3.out o5)
          have S5 := Lib.hid t2
          clear b4 b4' hV t1 t2 o5 xb0 xb1 xb2 xb3 xf XB
          have fr := box_frozen X5.out
          have r0 := row_cells X5.out 0
          have r1 := row_cells X5.out 1
          have r2 := row_cells X5.out 2
          have r3 := row_cells X5.out 3
          obtain ⟨s0, s1, s2, s3⟩ := box4_cells S5.out
          have hpq : d.pages = (d.many : Int) / 8 := rfl
          by_cases hce : ce = 0
          · by_cases hpp : s.pag = (d.many : Int) / 8
            · have HE : Hid (d.srE = 0 ∧ d.srS = s) := Lib.hid (by
                have h1 : d.srE = 0 := by rw [HEU.out.1, if_pos ⟨hce, hpp⟩]
                exact ⟨h1, by rw [HEU.out.2, if_pos h1]⟩)
              subst hce
              have hpb : (s.pag != (d.many : Int) / 8) = false := by simp [hpp]
              clear hpp hpq
              go_wp2_with fail
              generalize hU : World.setCell _ _ _ = U
              obtain ⟨t1, t2⟩ := put4V X5.out hU
              have q := row_cells t2
              have HF := Lib.hid ((Only.of_below (S := []) B5.out).then_ t1 (fun z hz => .inr (by rw [List.mem_singleton.1 hz]; exact Nat.le_refl _))).below
              clear hU t1 t2 fr r0 r1 r2 r3 s0 s1 s2 s3
              simp [bodyPost, results, Tryd.results44, go_sem, q]
              exact ⟨by rw [HE.out.1, HE.out.2]; rfl, HF.out⟩
            · have HE : Hid (d.srE = 140) := Lib.hid (by rw [HEU.out.1, if_neg (fun h => hpp h.2)])
              subst hce
              have hpb : (s.pag != (d.many : Int) / 8) = true := by simp [hpp]
              clear hpp hpq
              go_wp2_with fail
              generalize hU : World.setCell _ _ _ = U
              obtain ⟨t1, t2⟩ := put4V X5.out hU
              have q := row_cells t2
              have HF := Lib.hid ((Only.of_below (S := []) B5.out).then_ t1 (fun z hz => .inr (by rw [List.mem_singleton.1 hz]; exact Nat.le_refl _))).below
              clear hU t1 t2 fr r0 r1 r2 r3 s0 s1 s2 s3
              simp [bodyPost, results, Tryd.results44, go_sem, q]
              exact ⟨by rw [srS_bad (by rw [HE.out]; decide), HE.out]; rfl, HF.out⟩
          · have HE : Hid (d.srE = 140) := Lib.hid (by rw [HEU.out.1, if_neg (fun h => hce h.1)])
            have hcb : (ce != 0) = true := by simp [hce]
            clear hce hpq
            go_wp2_with fail
            generalize hU : World.setCell _ _ _ = U
            obtain ⟨t1, t2⟩ := put4V X5.out hU
            have q := row_cells t2
            have HF := Lib.hid ((Only.of_below (S := []) B5.out).then_ t1 (fun z hz => .inr (by rw [List.mem_singleton.1 hz]; exact Nat.le_refl _))).below
            clear hU t1 t2 fr r0 r1 r2 r3 s0 s1 s2 s3
            simp [bodyPost, results, Tryd.results44, go_sem, q]
            exact ⟨by rw [srS_bad (by rw [HE.out]; decide), HE.out]; rfl, HF.out⟩
        · have b4' : Below wr.heap.size wr w4 := below_then (below1 wr (.cells #[.int .i64 0, .int .i64 0, .int .i64 0, .int .i64 0] 23)).drew b4
          generalize hV : World.setCell _ _ _ = V
          obtain ⟨t1, t2⟩ := put4V XB.out hV
          have o5 : Below wr.heap.size wr V := ((Only.of_below (S := []) b4').then_ t1 (fun z hz => .inr (by rw [List.mem_singleton.1 hz]; exact Nat.le_refl _))).below
          have B5 := Lib.hid (below_then B3.out o5)
          have X5 := Lib.hid (row_then X3.out o5)
          have S5 := Lib.hid t2
          clear b4 b4' hV t1 t2 o5 xb0 xb1 xb2 xb3 xf XB
          have fr := box_frozen X5.out
          have r0 := row_cells X5.out 0
          have r1 := row_cells X5.out 1
          have r2 := row_cells X5.out 2
          have r3 := row_cells X5.out 3
          obtain ⟨s0, s1, s2, s3⟩ := box4_cells S5.out
          have hpq : d.pages = (d.many : Int) / 8 := rfl
          by_cases hce : ce = 0
          · by_cases hpp : s.pag = (d.many : Int) / 8
            · have HE : Hid (d.srE = 0 ∧ d.srS = s) := Lib.hid (by
                have h1 : d.srE = 0 := by rw [HEU.out.1, if_pos ⟨hce, hpp⟩]
                exact ⟨h1, by rw [HEU.out.2, if_pos h1]⟩)
              subst hce
              have hpb : (s.pag != (d.many : Int) / 8) = false := by simp [hpp]
              clear hpp hpq
              go_wp2_with fail
              generalize hU : World.setCell _ _ _ = U
              obtain ⟨t1, t2⟩ := put4V X5.out hU
              have q := row_cells t2
              have HF := Lib.hid ((Only.of_below (S := []) B5.out).then_ t1 (fun z hz => .inr (by rw [List.mem_singleton.1 hz]; exact Nat.le_refl _))).below
              clear hU t1 t2 fr r0 r1 r2 r3 s0 s1 s2 s3
              simp [bodyPost, results, Tryd.results44, go_sem, q]
              exact ⟨by rw [HE.out.1, HE.out.2]; rfl, HF.out⟩
            · have HE : Hid (d.srE = 140) := Lib.hid (by rw [HEU.out.1, if_neg (fun h => hpp h.2)])
              subst hce
              have hpb : (s.pag != (d.many : Int) / 8) = true := by simp [hpp]
              clear hpp hpq
              go_wp2_with fail
              generalize hU : World.setCell _ _ _ = U
              obtain ⟨t1, t2⟩ := put4V X5.out hU
              have q := row_cells t2
              have HF := Lib.hid ((Only.of_below (S := []) B5.out).then_ t1 (fun z hz => .inr (by rw [List.mem_singleton.1 hz]; exact Nat.le_refl _))).below
              clear hU t1 t2 fr r0 r1 r2 r3 s0 s1 s2 s3
              simp [bodyPost, results, Tryd.results44, go_sem, q]
              exact ⟨by rw [srS_bad (by rw [HE.out]; decide), HE.out]; rfl, HF.out⟩
          · have HE : Hid (d.srE = 140) := Lib.hid (by rw [HEU.out.1, if_neg (fun h => hce h.1)])
            have hcb : (ce != 0) = true := by simp [hce]
            clear hce hpq
            go_wp2_with fail
            generalize hU : World.setCell _ _ _ = U
            obtain ⟨t1, t2⟩ := put4V X5.out hU
            have q := row_cells t2
            have HF := Lib.hid ((Only.of_below (S := []) B5.out).then_ t1 (fun z hz => .inr (by rw [List.mem_singleton.1 hz]; exact Nat.le_refl _))).below
            clear hU t1 t2 fr r0 r1 r2 r3 s0 s1 s2 s3
            simp [bodyPost, results, Tryd.results44, go_sem, q]
            exact ⟨by rw [srS_bad (by rw [HE.out]; decide), HE.out]; rfl, HF.out⟩
end Go.Proofs.YtonjapphhbhcpaaDoor
