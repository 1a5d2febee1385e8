/- The program's space: New. No statement is proved here. -/
import Derived.Test.YteoekfmjlmpmgaaHPr10
import Derived.Test.YteoekfmjlmpmgaaHRef3
namespace Go.Proofs.Yteoekfmjlmpmgaa
open Go.RowKit
set_option maxRecDepth 100000

theorem make_zeroZ (n : Nat) (hn : n ≤ 17592186044416) (w : World) : (Instr.makeSlice 54 (.int .i64 (n : Int)) (.int .i64 (n : Int))).run Try.prog w = .ok (.slice (some ⟨w.heap.size, 0, none⟩) n n) (w.alloc (.cells (ztV (List.replicate n 0)).toArray 60)) := by
  obtain ⟨i, h1, h2, h3, h4⟩ := info_parts info_state
  have hb2 : (i.bytes : Int) * (n : Int) ≤ 281474976710656 := by rw [h4]; omega
  have := run_make (P := Try.prog) w 54 60 i (.int .u8 0) Try.underlying54 h1 h2 .i64 .i64 n n (by omega) (by omega) hb2 (by omega)
  have e : madeCells (Value.int .u8 0).cells (n * i.size) = (ztV (List.replicate n 0)).toArray := by
    rw [h3, Nat.mul_one]
    apply Array.toList_inj.1
    rw [ztV, List.map_replicate]
    exact toList_madeCells_one _ _
  simpa [e] using this
theorem are_zero_rep (n : Nat) : three (List.replicate n 0) := fun x hx => .inl (List.eq_of_mem_replicate hx)
theorem newF_no2 : ∀ {us L M : List Int}, newF L us = some M → (∀ x ∈ L, x ≠ 2) → ∀ x ∈ M, x ≠ 2
  | [], L, M, h, ht => by
    injection h with h
    rw [← h]
    exact ht
  | u :: us, L, M, h, ht => by
    unfold newF at h
    split at h
    · refine newF_no2 h fun x hx => ?_
      rcases List.mem_or_eq_of_mem_set hx with h1 | h1
      · exact ht x h1
      · rw [h1]; decide
    · cases h
theorem are_none {x : Int} : ∀ (L : List Int) (k : Nat), (∀ y ∈ L, y ≠ x) → areFrom x k L = []
  | [], _, _ => rfl
  | y :: l, k, h => by
    rw [areFrom, if_neg (h y (List.mem_cons_self ..))]
    exact are_none l (k + 1) fun z hz => h z (List.mem_cons_of_mem _ hz)
/-- While a space is made: its pages in use so far. -/
structure NewRel (w wr : World) (g p : Nat) (M us : List Int) (k : Nat) : Prop where
  mem : PspM wr w.heap.size (w.heap.size + 1) g p (.slice none 0 0) (.slice none 0 0) M [] []
  gw : g = w.heap.size
  new : newF (List.replicate p 0) (us.take k) = some M
  low : Below w.heap.size w wr
/-- While its free pages are laid into the heap. -/
structure FillRel (w wr : World) (g p : Nat) (v : Value) (M l : List Int) (k : Nat) (vf : Value) (H : List Int) : Prop where
  mem : PspM wr w.heap.size (w.heap.size + 1) g p vf (.slice none 0 0) M H []
  hp : heapP H
  all : H.Perm (l.take k)
  row : OwnI wr w.heap.size v l
  off : ∀ b, v.ownBlock = some b → b ∉ blF (w.heap.size + 1) g vf (.slice none 0 0)
  low : Below w.heap.size w wr
set_option maxHeartbeats 4000000 in
theorem new_any (B : Nat) (pages : Int) (hp : okInt pages) (ua : Option Addr) (n c : Nat) (us : List Int) (w : World) (hB : B ≤ w.heap.size) (hi : InI w ua us) (hn : us.length = n) (hl : n ≤ 17592186044416) (hu : ∀ u ∈ us, okInt u) :
    Calls Try.prog 9 #[.int .i64 pages, .slice ua n c] w (NewTo (PSp B) pages us w) := by
  have HI := Lib.hid (And.intro hi (And.intro hn hu))
  clear hi hn hu
  by_cases hpg : 1 ≤ pages ∧ pages ≤ 65536
  · obtain ⟨p, rfl⟩ : ∃ p : Nat, pages = p := ⟨pages.toNat, by omega⟩
    have hp1 : 1 ≤ p ∧ p ≤ 65536 := by omega
    have hnp : newP (p : Int) us = newF (List.replicate p 0) us := by unfold newP; rw [if_pos hpg, Int.toNat_natCast]
    have HNP := Lib.hid hnp
    clear hnp
    have hmk : ∀ w : World, (Instr.makeSlice 54 (.int .i64 (p : Int)) (.int .i64 (p : Int))).run Try.prog w = .ok (.slice (some ⟨w.heap.size, 0, none⟩) p p) (w.alloc (.cells (ztV (List.replicate p 0)).toArray 60)) := fun w => make_zeroZ p (by omega) w
    have hown := OwnZ.lit w (List.replicate p 0) (by rw [List.length_replicate]; exact Nat.le_trans hp1.2 (by decide))
    rw [List.length_replicate] at hown
    have HS : Hid (NewRel w ((w.alloc (.cells (ztV (List.replicate p 0)).toArray 60)).alloc (.cells #[.slice (some ⟨w.heap.size, 0, none⟩) p p, .slice none 0 0, .slice none 0 0] 58)) w.heap.size p (List.replicate p 0) us 0) :=
      Lib.hid ⟨⟨⟨by rw [List.length_replicate]; exact heap_alloc_at _ _ _ (by simp), OwnI.nil _ _, (fun e => by cases e), by omega⟩, by rw [List.length_replicate]; exact hown.alloc _, OwnI.nil _ _, by omega, (fun e => by cases e), (fun e => by cases e), (fun e => by cases e), (fun b hb => by cases hb)⟩, rfl, rfl, below2 _ _ _⟩
    clear hown
    go_enter Try.func9, Try.ntmps9
    go_wp2_with fail
    go_loopw [23] (fun i wr => ∃ (k : Nat) (M : List Int), k ≤ n ∧ i = .int .i64 (k : Int) ∧ Hid (NewRel w wr w.heap.size p M us k)) (fun i _ => n - (intOf i).toNat)
    case atStart => exact ⟨0, _, Nat.zero_le _, rfl, HS⟩
    case round =>
      obtain ⟨k, M, hk, rfl, HR⟩ := hrel
      have hlen : M.length = p := by rw [newF_len HR.out.new, List.length_replicate]
      by_cases hlt : k < n
      · obtain ⟨b0, o0, u, rfl, hu, cu⟩ := (HI.out.1.then_ HR.out.low).one (i := k) (by rw [HI.out.2.1]; exact hlt)
        have hnew := newF_at HR.out.new hu
        have huo := HI.out.2.2 u (List.mem_of_getElem? hu)
        have HC := Lib.hid (is_any w.heap.size _ _ p _ _ M [] [] u 0 huo wr HR.out.mem (by omega))
        cases hst : stB M u 0 with
        | true =>
          rw [hst] at HC
          obtain ⟨j, rfl, hj⟩ : ∃ j : Nat, u = j ∧ M[j]? = some 0 := by
            unfold stB at hst
            rw [Bool.and_eq_true] at hst
            have h0 : 0 ≤ u := of_decide_eq_true hst.1
            exact ⟨u.toNat, by omega, by simpa using hst.2⟩
          have hjp : j < p := by have := lt_of_get hj; omega
          obtain ⟨cj, fj⟩ := HR.out.mem.st.at_ hj
          have c0 : wr.cell? ⟨w.heap.size + 1, 0, none⟩ = some (.slice (some ⟨w.heap.size, 0, none⟩) M.length p) := row_cells HR.out.mem.hp.box 0
          rw [hlen] at c0
          have hz := HR.out.mem.setZ j 1
          have hn2 : newF (List.replicate p 0) (us.take (k + 1)) = some (M.set j 1) := by
            rw [hnew.2, newF, if_pos ⟨by omega, by rw [Int.toNat_natCast]; exact hj⟩, Int.toNat_natCast]; rfl
          have HN : Hid (NewRel w (wr.setCell ⟨w.heap.size, j, none⟩ (.int .u8 1)) w.heap.size p (M.set j 1) us (k + 1)) := Lib.hid ⟨hz.1, rfl, hn2, Only.lower HR.out.low hz.2.only (fun b hb => (HR.out.mem.lt b hb).1) HR.out.low.size⟩
          clear hz hn2 hnew huo hu hj hst
          go_wp2_with fail
          refine HC.out.mono ?_
          rintro e w1 ⟨rfl, rfl⟩
          clear HC
          go_wp2_with fail
          go_roundw
          case rel => exact ⟨k + 1, _, by omega, by go_num, HN⟩
          case measure => simp [intOf]; omega
        | false =>
          rw [hst] at HC
          have hbad : newP (p : Int) us = none := by
            rw [HNP.out, hnew.1, newF, if_neg (fun h => by
              unfold stB at hst
              rw [h.2] at hst
              simp [h.1] at hst)]
          have HB := Lib.hid hbad
          clear hbad hnew huo hu hst
          go_wp2_with fail
          refine HC.out.mono ?_
          rintro e w1 ⟨rfl, rfl⟩
          clear HC
          go_wp2_with fail
          go_ret2
          exact ⟨HR.out.low, .inl ⟨HB.out, rfl⟩⟩
      · have hkn : k = n := by omega
        subst hkn
        have ht : us.take k = us := List.take_of_length_le (by rw [HI.out.2.1]; exact Nat.le_refl _)
        have hall := HR.out.new
        rw [ht, ← HNP.out] at hall
        have HB := Lib.hid hall
        have HC := Lib.hid (all_any w.heap.size _ _ p _ _ M [] [] 0 wr HR.out.mem (by omega))
        clear hall ht
        go_wp2_with fail
        refine HC.out.mono ?_
        rintro e w1 ⟨v, rfl, o1, b1⟩
        have hlz : (areL M 0).length ≤ 65536 := by rw [areL_len]; have := many_le 0 M; omega
        obtain ⟨av, cv, e, -⟩ := o1.shape
        subst e
        have HF : Hid (FillRel w w1 w.heap.size p (.slice av (areL M 0).length cv) M (areL M 0) 0 (.slice none 0 0) []) := Lib.hid ⟨HR.out.mem.keep fun b hb => b1.block b (HR.out.mem.lt b hb).2, heap_nil, List.Perm.refl _, o1.base HR.out.low.size, fun b hb hn => by have := (o1.block b hb).1; have := (HR.out.mem.lt b hn).2; omega, below_then HR.out.low b1⟩
        clear o1 b1 HC
        generalize hq : (areL M 0).length = q at *
        have HQ := Lib.hid hq
        go_wp2_with fail
        go_loopw [41] (fun i wr => ∃ (k : Nat) (vf : Value) (H : List Int), k ≤ q ∧ i = .int .i64 (k : Int) ∧ Hid (FillRel w wr w.heap.size p (.slice av q cv) M (areL M 0) k vf H)) (fun i _ => q - (intOf i).toNat)
        case atStart => exact ⟨0, _, _, Nat.zero_le _, rfl, HF⟩
        case round =>
          obtain ⟨k, vf, H, hk, rfl, HG⟩ := hrel
          by_cases hlt : k < q
          · obtain ⟨y, hy⟩ : ∃ y, (areL M 0)[k]? = some y := ⟨_, List.getElem?_eq_getElem (by rw [HQ.out]; exact hlt)⟩
            obtain ⟨gv, e⟩ : ∃ gv, av = some ⟨gv, 0, none⟩ := by
              obtain ⟨gv, d, e, -⟩ := HG.out.row.form (by rw [HQ.out]; omega)
              injection e with e
              exact ⟨gv, e⟩
            subst e
            obtain ⟨ck, fk⟩ := HG.out.row.at_ hy
            have hyo : okInt y := areL_ok (by omega) y (List.mem_of_getElem? hy)
            have hHl : H.length ≤ 100000 := by rw [HG.out.all.length_eq, List.length_take]; omega
            have HP := Lib.hid (push_any w.heap.size (w.heap.size + 1) _ vf _ H y wr HG.out.mem.hp HG.out.hp hHl hyo)
            have HY := Lib.hid hy
            clear hyo hHl hy
            go_wp2_with fail
            refine HP.out.mono ?_
            rintro e w2 ⟨rfl, vf2, H2, ⟨p1, p2⟩, p3, p4, p5⟩
            have hm2 := HG.out.mem.heap p3 p4 p5
            have lv := HG.out.row.block gv rfl
            have nv := HG.out.off gv rfl
            have HN : Hid (FillRel w w2 w.heap.size p (.slice (some ⟨gv, 0, none⟩) q cv) M (areL M 0) (k + 1) vf2 H2) := Lib.hid ⟨hm2.1, p1, (p2.trans (HG.out.all.cons y)).trans (by
                rw [List.take_add_one, HY.out]
                exact (List.perm_append_comm (l₁ := [y]))), HG.out.row.keep (fun b hb => by
                have e : gv = b := (by simpa [Value.ownBlock] using hb)
                subst e
                exact hm2.2.only.block _ lv.2 nv), fun b hb hn => by
                have e : gv = b := (by simpa [Value.ownBlock] using hb)
                subst e
                rcases hm2.2.more _ hn with h1 | h1
                · exact nv h1
                · omega, Only.lower HG.out.low hm2.2.only (fun b hb => (HG.out.mem.lt b hb).1) HG.out.low.size⟩
            clear p1 p2 p3 p4 p5 hm2 lv nv HP
            go_wp2_with fail
            go_roundw
            case rel => exact ⟨k + 1, _, _, by omega, by go_num, HN⟩
            case measure => simp [intOf]; omega
          · have hkq : k = q := by omega
            subst hkq
            have hall := HG.out.all
            rw [List.take_of_length_le (by rw [HQ.out]; exact Nat.le_refl _)] at hall
            have h2 : areL M 2 = [] := are_none M 0 (newF_no2 HR.out.new (fun x hx => by rw [List.eq_of_mem_replicate hx]; decide))
            have HE : Hid (PSp B wr (blF (w.heap.size + 1) w.heap.size vf (.slice none 0 0)) (w.heap.size + 1) M) := Lib.hid ⟨_, p, vf, _, H, [], rfl, HG.out.mem.base hB, HG.out.hp, hall, by rw [h2], newF_three HR.out.new (are_zero_rep p), by omega, by omega⟩
            clear hall h2
            go_wp2_with fail
            go_ret2
            exact ⟨HG.out.low, .inr ⟨M, _, _, HB.out, by simp, HE.out, fun b hb => (HG.out.mem.lt b hb).1⟩⟩
  · have hbad : newP pages us = none := by unfold newP; rw [if_neg hpg]
    have HB := Lib.hid hbad
    clear hbad
    go_enter Try.func9, Try.ntmps9
    by_cases h1 : pages < 1
    · go_wp2_with fail
      go_ret2
      exact ⟨Below.refl _ _, .inl ⟨HB.out, rfl⟩⟩
    · have h2 : pages > 65536 := by omega
      go_wp2_with fail
      go_ret2
      exact ⟨Below.refl _ _, .inl ⟨HB.out, rfl⟩⟩
end Go.Proofs.Yteoekfmjlmpmgaa
