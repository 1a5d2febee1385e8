/- The program's Frame. The program's recordAt. A loop over an iterator that changes nothing of its own. No statement is proved here. -/
import Derived.Test.YtophhnolnlbecaaDoorQ21
import Derived.Test.YtophhnolnlbecaaDoorQ8
import Derived.Test.YtophhnolnlbecaaDoorQ23
import Derived.RangeFuncLeaves
import Derived.RangeFuncCalls
import Derived.RangeFuncBound
import Derived.WalkKit
import Derived.OwnWalkIn
import Derived.TacticsInMore
import Derived.LoopNIn
import Derived.LoopIn
import Derived.Test.YtophhnolnlbecaaDoorQ12
namespace Go.Proofs.YtophhnolnlbecaaDoor
open Go.RowKit
set_option maxRecDepth 100000

theorem tab16_onJ {w w' : World} (h : Tab16 w) (hb : Below w.heap.size w w') : Tab16 w' := fun i hi => (hb.cell (p := ⟨1, i, none⟩) (cell_lt (h i hi))).trans (h i hi)
theorem spl_grow {a x : List Int} {z k : Nat} (hk : k = a.length) (hx : x.length ≤ z) : spl (a ++ List.replicate z 0) k x = (a ++ x) ++ List.replicate (z - x.length) 0 := by
  subst hk
  unfold spl
  rw [List.take_left, List.append_assoc]
  congr 2
  rw [← List.drop_drop, List.drop_left, List.drop_replicate]
theorem run_slF (g n : Nat) : ∃ k, (∀ w, (Instr.slice 22 (.slice (some ⟨g, 0, none⟩) (20 + n) (20 + n)) (some (.int .i64 20)) none none).run Tryd.prog w = .ok (.slice (some ⟨g, k, none⟩) n n) w) ∧ (n ≠ 0 → k = 20) ∧ k ≤ 20 := by
  by_cases hn : n = 0
  · subst hn
    refine ⟨0, fun w => ?_, fun h => absurd rfl h, by omega⟩
    rw [run_slice_l w 22 _ _ _ (by kernel_rfl) .i64 _ (by omega) (by omega)]
    simp [go_sem, sliced]
  · refine ⟨20, fun w => ?_, fun _ => rfl, Nat.le_refl _⟩
    rw [run_slice_l w 22 _ _ _ (by kernel_rfl) .i64 _ (by omega) (by omega)]
    rw [show sizeOf (Tryd.prog.elem 22) = sizeOf 5 from rfl]
    have e : ¬ 20 + n = 20 := by omega
    simp [go_sem, sliced, e, hn]
theorem frame_last (h s l : List Int) (hh : h.length = 16) (hs : s.length = 4) {k : Nat} (hk : l.length ≠ 0 → k = 20) : spl (((h ++ s) ++ List.replicate l.length 0)) k l = h ++ (s ++ l) := by
  by_cases h0 : l.length = 0
  · have : l = [] := List.eq_nil_of_length_eq_zero h0
    subst this
    unfold spl
    simp
  · rw [spl_grow (by rw [hk h0, List.length_append, hh, hs]) (Nat.le_refl _), Nat.sub_self]
    simp
set_option maxHeartbeats 8000000 in
theorem pframe_any (e num : Int) (la : Option Addr) (n c : Nat) (l : List Int) (w : World) (ht : Tab16 w) (he : okInt e) (hnum : okInt num) (hin : InB w la l) (hB : isB l) (hn : l.length = n) (hl : n ≤ 140737488351232) :
    Calls Tryd.prog 11 #[.int .i64 e, .int .i64 num, .slice la n c] w (FrTo e num l w) := by
  have HA := Lib.hid (And.intro hin (And.intro hB hn))
  have HEp := Lib.hid (pepoch_any e w)
  unfold okInt at he hnum
  by_cases c1 : jOk e
  rotate_left
  · have HE := Lib.hid (show FrTo e num l w (.returned (.tuple #[.slice none 0 0, .int .i64 1])) w from FrTo.bad (by unfold frE; rw [if_pos (.inl c1)]) (by decide))
    rw [decide_eq_false c1] at HEp
    clear c1 hin hB hn
    go_enter Tryd.func11, Tryd.ntmps11
    go_wp2_with fail
    refine HEp.out.mono ?_
    rintro en w' ⟨rfl, rfl⟩
    go_wp2_with fail
    go_ret2
    exact HE.out
  have C1 := Lib.hid c1
  rw [decide_eq_true c1] at HEp
  by_cases c2 : num < 0 ∨ 2147483648 ≤ num
  · have HE := Lib.hid (show FrTo e num l w (.returned (.tuple #[.slice none 0 0, .int .i64 1])) w from FrTo.bad (by unfold frE; rw [if_pos (.inr c2)]) (by decide))
    clear c1 hin hB hn
    have c2' : num < 0 ∨ (0 ≤ num ∧ 2147483648 ≤ num) := by omega
    clear c2
    rcases c2' with c2 | ⟨c2, c3⟩
    all_goals
      go_enter Tryd.func11, Tryd.ntmps11
      go_wp2_with fail
      refine HEp.out.mono ?_
      rintro en w' ⟨rfl, rfl⟩
      go_wp2_with fail
      go_ret2
      exact HE.out
  have hn0 : 0 ≤ num := by omega
  have hn1 : num < 2147483648 := by omega
  by_cases c3 : 268435456 < n
  · have HE := Lib.hid (show FrTo e num l w (.returned (.tuple #[.slice none 0 0, .int .i64 2])) w from FrTo.bad (by unfold frE; rw [if_neg (by intro h; rcases h with h | h; exact h c1; exact c2 h), hn, if_pos c3]) (by decide))
    clear c1 c2 hin hB hn
    go_enter Tryd.func11, Tryd.ntmps11
    go_wp2_with fail
    refine HEp.out.mono ?_
    rintro en w' ⟨rfl, rfl⟩
    go_wp2_with fail
    go_ret2
    exact HE.out
  have hE0 : frE e num l.length = 0 := by unfold frE; rw [if_neg (by intro h; rcases h with h | h; exact h c1; exact c2 h), hn, if_neg c3]
  have HE := Lib.hid (show frE e num l.length = 0 ∧ frL e num l = jFrame e num l from ⟨hE0, by unfold frL; rw [if_pos hE0]⟩)
  have p4 : (256 : Int) ^ 4 = 4294967296 := by decide
  have p8 : (256 : Int) ^ 8 = 18446744073709551616 := by decide
  have hj := c1
  unfold jOk at hj
  have hmk : (Instr.makeSlice 22 (.int .i64 (20 + (n : Int))) (.int .i64 (20 + (n : Int)))).run Tryd.prog w = .ok (.slice (some ⟨w.heap.size, 0, none⟩) (20 + n) (20 + n)) (w.alloc (.cells (zeroV (20 + n)).toArray 5)) := by
    have := (make_full (20 + n) (by omega) w).1
    rwa [show ((20 + n : Nat) : Int) = 20 + (n : Int) by omega] at this
  have F0 : Hid (FullAt (w.alloc (.cells (zeroV (20 + n)).toArray 5)) w.heap.size ([] ++ List.replicate (20 + n) 0)) := Lib.hid (make_full (20 + n) (by omega) w).2
  have B0 := Lib.hid (below1 w (.cells (zeroV (20 + n)).toArray 5))
  have HP1 := Lib.hid (pput_any w.heap.size 0 4 (20 + n) _ (n : Int) _ w.heap.size F0.out (by omega) (by omega) (by omega) (by omega) (by unfold okInt; omega) (by rw [List.nil_append, List.length_replicate]; omega) (Nat.le_refl _))
  rw [spl_grow (a := []) (k := 0) rfl (by rw [leB_len]; omega), leB_len, List.nil_append] at HP1
  have HP2 := Lib.hid (fun w' (hf : FullAt w' w.heap.size (leB 4 (n : Int) ++ List.replicate (20 + n - 4) 0)) => by
    have h := pput_any w.heap.size 4 8 (20 + n - 4) _ e w' w.heap.size hf (by omega) (by omega) (by omega) (by omega) (by unfold okInt; omega) (by rw [List.length_append, leB_len, List.length_replicate]; omega) (Nat.le_refl _)
    rw [spl_grow (by rw [leB_len]) (by rw [leB_len]; omega), leB_len] at h
    exact h)
  have HP3 := Lib.hid (fun w' (hf : FullAt w' w.heap.size ((leB 4 (n : Int) ++ leB 8 e) ++ List.replicate (20 + n - 4 - 8) 0)) => by
    have h := pput_any w.heap.size 12 4 (20 + n - 12) _ num w' w.heap.size hf (by omega) (by omega) (by omega) (by omega) (by unfold okInt; omega) (by rw [List.length_append, List.length_append, leB_len, leB_len, List.length_replicate]; omega) (Nat.le_refl _)
    rw [spl_grow (by rw [List.length_append, leB_len, leB_len]) (by rw [leB_len]; omega), leB_len] at h
    exact h)
  have HLn := Lib.hid (show (leB 4 (n : Int) ++ leB 8 e) ++ leB 4 num = jHead e num l by unfold jHead; rw [hn]; simp)
  rw [HLn.out] at HP3
  have hms := moreP_rng0 (show isB (jHead e num l ++ l) from (jHead_byte _ _ _).append2 hB)
  have happ := moreP_app (a := jHead e num l) (b := l) (jHead_byte _ _ _)
  have HS1 := Lib.hid (fun w' (hb : Below w.heap.size w w') (hf : FullAt w' w.heap.size (jHead e num l ++ List.replicate (20 + n - 4 - 8 - 4) 0)) => more0_any (some ⟨w.heap.size, 0, none⟩) (20 + n) 16 (jHead e num l) w' (tab16_onJ ht hb) (by have := hf.inB.take_ 16; rwa [List.take_left' (jHead_len _ _ _)] at this) (jHead_byte _ _ _) (jHead_len _ _ _) (by omega))
  have HS2 := Lib.hid (fun w' (hb : Below w.heap.size w w') => moreS_any (moreP 0 (jHead e num l)) la c n l w' (tab16_onJ ht hb) (HA.out.1.then_ hb) hB hn hl)
  rw [happ.1, happ.2] at HS2
  have HP4 := Lib.hid (fun w' (hf : FullAt w' w.heap.size (jHead e num l ++ List.replicate (20 + n - 4 - 8 - 4) 0)) => by
    have h := pput_any w.heap.size 16 4 (20 + n - 16) _ (moreP 0 (jHead e num l ++ l)) w' w.heap.size hf (by omega) (by omega) hms.1 (by omega) (by unfold okInt; omega) (by rw [List.length_append, jHead_len, List.length_replicate]; omega) (Nat.le_refl _)
    rw [spl_grow (by rw [jHead_len]) (by rw [leB_len]; omega), leB_len, show 20 + n - 4 - 8 - 4 - 4 = n by omega] at h
    exact h)
  obtain ⟨k, hsl, hk, hk20⟩ := run_slF w.heap.size n
  have HK := Lib.hid (frame_last (jHead e num l) (leB 4 (moreP 0 (jHead e num l ++ l))) l (jHead_len _ _ _) (leB_len _ _) (k := k) (by rw [hn]; exact hk))
  rw [hn] at HK
  have HJ := Lib.hid (jHead_len e num l)
  have hn2 : n ≤ 268435456 := by omega
  clear c1 c2 c3 hj hin hB p4 p8 hE0 he hnum hk HLn ht
  obtain ⟨sm, hsm⟩ : ∃ sm, sm = moreP 0 (jHead e num l ++ l) := ⟨_, rfl⟩
  obtain ⟨s0, hs0⟩ : ∃ s0, s0 = moreP 0 (jHead e num l) := ⟨_, rfl⟩
  have HSM := Lib.hid hsm
  rw [← hsm] at HS2 HP4 HK hms
  rw [← hs0] at HS1 HS2
  clear hsm hs0 happ hn
  go_enter Tryd.func11, Tryd.ntmps11
  go_wp2_with fail
  refine HEp.out.mono ?_
  rintro en w' ⟨rfl, rfl⟩
  go_wp2_with fail
  refine HP1.out.mono ?_
  rintro en w1 ⟨rfl, f1, b1⟩
  have H1 := Lib.hid (And.intro f1.out (B0.out.trans b1))
  clear f1 b1 hmk HEp
  go_wp2_with fail
  refine (HP2.out w1 H1.out.1).mono ?_
  rintro en w2 ⟨rfl, f2, b2⟩
  have H2 := Lib.hid (And.intro f2.out (H1.out.2.trans b2))
  clear f2 b2
  go_wp2_with fail
  refine (HP3.out w2 H2.out.1).mono ?_
  rintro en w3 ⟨rfl, f3, b3⟩
  have H3 := Lib.hid (And.intro f3.out (H2.out.2.trans b3))
  clear f3 b3
  go_wp2_with fail
  refine (HS1.out w3 H3.out.2 H3.out.1).mono ?_
  rintro en w3' ⟨rfl, rfl⟩
  go_wp2_with fail
  refine (HS2.out w3 H3.out.2).mono ?_
  rintro en w3' ⟨rfl, rfl⟩
  go_wp2_with fail
  refine (HP4.out w3 H3.out.1).mono ?_
  rintro en w4 ⟨rfl, f4, b4⟩
  have H4 := Lib.hid (And.intro f4.out (H3.out.2.trans b4))
  clear f4 b4
  go_wp2_with (show wpList _ _ _ (⟨some 57, _, _, _, _, _⟩ :: _) _ _; refine cpF (o := ⟨some 57, _, _, _, _, _⟩) rfl (.tmp 55) (.tmp 56) rfl w.heap.size k n n _ H4.out.1 rfl la n c l rfl HA.out.2.2 (Nat.le_refl _) (HA.out.1.then_ H4.out.2) (by rw [List.length_append, List.length_append, HJ.out, leB_len, List.length_replicate]; omega) w.heap.size w H4.out.2 (Nat.le_refl _) ?_; intro w5 f5 b5; have H5 := Lib.hid (And.intro (HK.out ▸ f5.out) b5); clear f5 b5)
  go_ret2
  refine ⟨.slice (some ⟨w.heap.size, 0, none⟩) (20 + n) (20 + n), by rw [HE.out.1]; rfl, ?_, H5.out.2⟩
  rw [HE.out.2]
  have ho := H5.out.1.own (B := w.heap.size) (Nat.le_refl _) (by unfold maxLen; rw [List.length_append, List.length_append, HJ.out, leB_len, HA.out.2.2]; omega)
  have hlen : (jHead e num l ++ (leB 4 sm ++ l)).length = 20 + n := by rw [List.length_append, List.length_append, HJ.out, leB_len, HA.out.2.2]; omega
  rw [hlen] at ho
  have hf : jFrame e num l = jHead e num l ++ (leB 4 sm ++ l) := by rw [HSM.out]; rfl
  rw [hf]
  exact ho
end Go.Proofs.YtophhnolnlbecaaDoor
namespace Go.Proofs.YtophhnolnlbecaaDoor
open Go.RowKit
set_option maxRecDepth 100000

theorem pow4 {k : Nat} (h : k ≤ 4) : (256 : Int) ^ k ≤ 4294967296 := by
  have h2 : k = 0 ∨ k = 1 ∨ k = 2 ∨ k = 3 ∨ k = 4 := by omega
  rcases h2 with rfl | rfl | rfl | rfl | rfl <;> decide
theorem valB4 {l : List Int} (h : isB l) (hl : l.length ≤ 4) : valB l ≤ 9223372036854775807 := by
  have h1 := (valB_le h).2
  have h2 := pow4 hl
  omega
theorem read_at4 {S : List Int} (hB : isB S) (p : Nat) : (p + 4 ≤ S.length → readE S p 4 = 0 ∧ readP S p 4 = readP (S.drop p) 0 4 ∧ readP S p 4 = valB ((S.drop p).take 4)) ∧ (S.length < p + 4 → readE S p 4 ≠ 0) := by
  refine ⟨fun h => ?_, fun h => ?_⟩
  · have a1 : argR S p 4 = true := decide_eq_true (by omega)
    have a2 : lenR S p 4 = true := decide_eq_true (by omega)
    have c1 : cutB S (p : Int) 4 = (S.drop p).take 4 := rfl
    have a3 : topR S p 4 = true := decide_eq_true (by rw [c1]; exact valB4 ((hB.drop _).take' _) (by rw [List.length_take]; omega))
    have b1 : argR (S.drop p) 0 4 = true := decide_eq_true (by omega)
    have b2 : lenR (S.drop p) 0 4 = true := decide_eq_true (by rw [List.length_drop]; omega)
    have c2 : cutB (S.drop p) 0 4 = (S.drop p).take 4 := rfl
    have b3 : topR (S.drop p) 0 4 = true := decide_eq_true (by rw [c2]; exact valB4 ((hB.drop _).take' _) (by rw [List.length_take]; omega))
    have e1 : readE S p 4 = 0 := by unfold readE; rw [if_pos a1, if_pos a2, if_pos a3]
    have e2 : readE (S.drop p) 0 4 = 0 := by unfold readE; rw [if_pos b1, if_pos b2, if_pos b3]
    refine ⟨e1, ?_, ?_⟩
    · unfold readP
      rw [if_pos e1, if_pos e2, c1, c2]
    · unfold readP
      rw [if_pos e1, c1]
  · unfold readE
    by_cases a1 : argR S p 4 = true
    · have a2 : lenR S p 4 = false := decide_eq_false (by omega)
      rw [if_pos a1, a2]
      simp
    · rw [if_neg a1]
      decide
/-- What it tells. -/
def RecTo (S : List Int) (e num : Int) (p : Nat) (w : World) (en : Ending) (w' : World) : Prop :=
  ((standsN (S.drop p) e num = 0 ∧ en = .returned (.tuple #[.slice none 0 0, .bool false])) ∨ (standsN (S.drop p) e num ≠ 0 ∧ ∃ v, en = .returned (.tuple #[v, .bool true]) ∧ OwnO w' w.heap.size v ((S.drop (p + 20)).take (standsN (S.drop p) e num - 20)))) ∧ Below w.heap.size w w'
set_option maxHeartbeats 8000000 in
theorem precord_any (e num : Int) (p : Nat) (la : Option Addr) (n c : Nat) (S : List Int) (w : World) (ht : Tab16 w) (he : okInt e) (hnum : okInt num) (hp : p ≤ 140737488355327) (hin : InB w la S) (hB : isB S) (hn : S.length = n) (hc : n ≤ c) (hl : n ≤ 140737488351232) :
    Calls Tryd.prog 43 #[.slice la n c, .int .i64 (p : Int), .int .i64 e, .int .i64 num] w (RecTo S e num p w) := by
  have HR := Lib.hid (pread_any la c n S p 4 w hin hB hn hl hc (by unfold okInt; omega) (by unfold okInt; omega))
  unfold ReadTo at HR
  have hra := read_at4 hB p
  by_cases c1 : n < p + 4
  · have h1 := hra.2 (by omega)
    have HX := Lib.hid (show RecTo S e num p w (.returned (.tuple #[.slice none 0 0, .bool false])) w from ⟨.inl ⟨by unfold standsN; rw [if_pos (by rw [List.length_drop]; omega)], rfl⟩, Below.refl _ _⟩)
    generalize readE S p 4 = er at *
    generalize readP S p 4 = pr at *
    have e1 : (er != 0) = true := by simp [h1]
    clear hin hB hn hra
    go_enter Tryd.func43, Tryd.ntmps43
    go_wp2_with fail
    refine HR.out.mono ?_
    rintro en w' ⟨rfl, rfl⟩
    go_wp2_with fail
    go_ret2
    exact HX.out
  obtain ⟨h1, h2, h3⟩ := hra.1 (by omega)
  have hv0 : 0 ≤ readP S p 4 ∧ readP S p 4 ≤ 4294967295 := by
    rw [h3]
    have k1 := (valB_le ((hB.drop p).take' 4)).1
    have k2 := (valB_le ((hB.drop p).take' 4)).2
    have h4 := pow4 (k := ((S.drop p).take 4).length) (by rw [List.length_take]; omega)
    omega
  obtain ⟨q, hq⟩ := Int.eq_ofNat_of_zero_le hv0.1
  rw [h1] at HR
  rw [hq] at HR hv0
  have hS : standsN (S.drop p) e num = if n - p < 20 then 0 else if n - p - 20 < q ∨ 268435456 < q then 0 else if frL e num (((S.drop p).drop 20).take q) = (S.drop p).take (20 + q) then 20 + q else 0 := by
    unfold standsN
    rw [← h2, hq, Int.toNat_natCast, List.length_drop, hn]
  clear h1 h2 h3 hq hra
  by_cases c2 : (n : Int) - ((p : Int) + 20) < (q : Int)
  · have HX := Lib.hid (show RecTo S e num p w (.returned (.tuple #[.slice none 0 0, .bool false])) w from ⟨.inl ⟨by
      rw [hS]
      split
      · rfl
      · rw [if_pos (by omega)], rfl⟩, Below.refl _ _⟩)
    clear hin hB hn hS
    go_enter Tryd.func43, Tryd.ntmps43
    go_wp2_with fail
    refine HR.out.mono ?_
    rintro en w' ⟨rfl, rfl⟩
    go_wp2_with fail
    go_ret2
    exact HX.out
  have c3 : p + 20 + q ≤ n := by omega
  obtain ⟨b, o, x0, rfl, -, -⟩ := hin.one (i := 0) (by omega)
  obtain ⟨a', hsl, hia⟩ := run_slB b o n c (p + 20) (p + 20 + q) ((p : Int) + 20) ((p : Int) + 20 + (q : Int)) (by omega) (by omega) (by omega) (by omega)
  obtain ⟨a2, hsl2, hia2⟩ := run_slB b o n c p (p + 20 + q) (p : Int) ((p : Int) + 20 + (q : Int)) (by omega) (by omega) (by omega) (by omega)
  rw [show p + 20 + q - (p + 20) = q by omega] at hsl hia
  rw [show p + 20 + q - p = 20 + q by omega] at hsl2 hia2
  have HL := Lib.hid (show ((S.drop (p + 20)).take q).length = q by rw [List.length_take, List.length_drop, hn]; omega)
  have HT := Lib.hid (show ((S.drop p).take (20 + q)).length = 20 + q by rw [List.length_take, List.length_drop, hn]; omega)
  have HFr := Lib.hid (pframe_any e num (some a') q (c - (p + 20)) ((S.drop (p + 20)).take q) w ht he hnum (hia w S hin) ((hB.drop _).take' _) HL.out (by omega))
  unfold FrTo at HFr
  rw [if_neg (by omega), List.drop_drop] at hS
  have HI2 := Lib.hid (fun w' (hb : Below w.heap.size w w') => hia2 w' S (hin.then_ hb))
  have HB1 := Lib.hid (frL_byte (e := e) (num := num) ((hB.drop (p + 20)).take' q))
  have HB2 := Lib.hid ((hB.drop p).take' (20 + q))
  have HFL := Lib.hid (show frE e num q = 0 → (frL e num ((S.drop (p + 20)).take q)).length = 20 + q ∧ (frL e num ((S.drop (p + 20)).take q)).drop 20 = (S.drop (p + 20)).take q from fun h => by
    unfold frL
    rw [HL.out, if_pos h]
    refine ⟨by rw [jFrame_len, HL.out], ?_⟩
    unfold jFrame
    rw [← List.append_assoc]
    exact List.drop_left' (by rw [List.length_append, jHead_len, leB_len]))
  have HF0 := Lib.hid (show frE e num q ≠ 0 → frL e num ((S.drop (p + 20)).take q) = [] from fun h => by unfold frL; rw [HL.out, if_neg h])
  have HFq := Lib.hid (show frE e num q = 0 → ¬ 268435456 < q from fun h hq => by
    unfold frE at h
    split at h
    · exact absurd h (by decide)
    · first
        | exact absurd h (by decide)
        | (rw [if_pos hq] at h; exact absurd h (by decide)))
  rw [HL.out] at HFr
  obtain ⟨D, hD⟩ : ∃ D, D = (S.drop (p + 20)).take q := ⟨_, rfl⟩
  have HD := Lib.hid hD
  rw [← hD] at HFr hS HB1 HFL HF0
  obtain ⟨F, hF⟩ : ∃ F, F = frL e num D := ⟨_, rfl⟩
  rw [← hF] at HFr hS HB1 HFL HF0
  obtain ⟨fe, hfe⟩ : ∃ fe, fe = frE e num q := ⟨_, rfl⟩
  rw [← hfe] at HFr HFL HF0 HFq
  obtain ⟨T, hT⟩ : ∃ T, T = (S.drop p).take (20 + q) := ⟨_, rfl⟩
  rw [← hT] at hS HT HI2 HB2
  obtain ⟨M, hM⟩ : ∃ M, M = standsN (S.drop p) e num := ⟨_, rfl⟩
  have HM := Lib.hid hM
  rw [← hM] at hS
  have HS := Lib.hid hS
  have c3' : ¬ ((n : Int) - ((p : Int) + 20) < (q : Int)) := c2
  clear hF hfe hT hM hS hD hia hia2 hin hB hn c1
  go_enter Tryd.func43, Tryd.ntmps43
  go_wp2_with fail
  refine HR.out.mono ?_
  rintro en w' ⟨rfl, rfl⟩
  go_wp2_with fail
  refine HFr.out.mono ?_
  rintro en w2 ⟨v2, rfl, o2, b2⟩
  have B2 := Lib.hid b2
  by_cases c4 : fe = 0
  rotate_left
  · have e1 : (fe != 0) = true := by simp [c4]
    have HX := Lib.hid (show RecTo S e num p w (.returned (.tuple #[.slice none 0 0, .bool false])) w2 from ⟨.inl ⟨by
      rw [← HM.out, HS.out]
      split
      · rfl
      · rw [HF0.out c4, if_neg (fun h => by have := HT.out; rw [← h] at this; simp at this; omega)], rfl⟩, B2.out⟩)
    obtain ⟨a3, c3, rfl, -, -, -, -⟩ := o2.shape
    clear o2 b2
    go_wp2_with fail
    go_ret2
    exact HX.out
  subst c4
  obtain ⟨hlF, hdF⟩ := HFL.out rfl
  obtain ⟨g, c2', rfl, hc2⟩ := o2.form (by omega)
  have HEq := Lib.hid (pequal_any (some ⟨g, 0, none⟩) (some a2) F.length c2' (20 + q) (c - p) F T w2 o2.inB (HI2.out w2 B2.out) HB1.out HB2.out rfl HT.out (fun e => by cases e) (fun e => by cases e))
  obtain ⟨k, cap5, hsl3, hown⟩ := own_behind (g := g) (n := q) (c := c2') (by omega)
  rw [hlF] at HEq o2 ⊢
  have HO := Lib.hid (hown w2 w.heap.size F hlF o2)
  rw [hdF] at HO
  clear o2 b2 hown
  by_cases c5 : F = T
  · rw [decide_eq_true c5] at HEq
    have HX := Lib.hid (show RecTo S e num p w (.returned (.tuple #[.slice (some ⟨g, k, none⟩) q cap5, .bool true])) w2 from by
      have hm : M = 20 + q := by rw [HS.out, if_neg (by have := HFq.out rfl; omega), if_pos c5]
      refine ⟨.inr ⟨by rw [← HM.out, hm]; omega, _, rfl, ?_⟩, B2.out⟩
      rw [← HM.out, hm, show 20 + q - 20 = q by omega, ← HD.out]
      exact HO.out)
    clear c5 hlF hdF
    go_wp2_with fail
    refine HEq.out.mono ?_
    rintro en w3 ⟨rfl, rfl⟩
    go_wp2_with fail
    go_ret2
    exact HX.out
  · rw [decide_eq_false c5] at HEq
    have HX := Lib.hid (show RecTo S e num p w (.returned (.tuple #[.slice none 0 0, .bool false])) w2 from ⟨.inl ⟨by
      rw [← HM.out, HS.out]
      split
      · rfl
      · first
          | rfl
          | rw [if_neg c5], rfl⟩, B2.out⟩)
    clear c5 hlF hdF
    go_wp2_with fail
    refine HEq.out.mono ?_
    rintro en w3 ⟨rfl, rfl⟩
    go_wp2_with fail
    go_ret2
    exact HX.out
end Go.Proofs.YtophhnolnlbecaaDoor
namespace Go.Proofs.YtophhnolnlbecaaDoor
open Go Go.RowKit

/-- What a loop over an iterator keeps of its own. -/
def TL (o : Obj) : Prop := (∃ x, o = .loop x) ∨ ∃ x, o = .deferred x
theorem TL_cells (cs : Array Value) (t : TypeId) (f : Nat × Nat) : ¬ TL (.cells cs t f) := fun h => by
  rcases h with ⟨x, h⟩ | ⟨x, h⟩ <;> cases h
/-- Of the blocks from n on only such may turn. -/
theorem turnsL_put {n : Nat} {W : World} {l : Nat} {o : Obj} (hn : n ≤ l) (hl : ∀ o', W.heap[l]? = some o' → TL o') : Turns TL n W (W.putObj l o) :=
  ⟨⟨rfl, rfl, rfl, by simp, fun k hk => World.putObj_heap_other (by omega)⟩, fun b o' hb ht => by
    refine (World.putObj_heap_other (fun e => ?_)).trans hb
    subst e
    exact ht (hl _ hb)⟩
/-- Those that there are stay. -/
def Keeps (W W' : World) : Prop := W.heap.size ≤ W'.heap.size ∧ ∀ (k : Nat) (o : Obj), W.heap[k]? = some o → TL o → W'.heap[k]? = some o
theorem Keeps.refl (W : World) : Keeps W W := ⟨Nat.le_refl _, fun _ _ h _ => h⟩
theorem Keeps.trans {A B C : World} (h : Keeps A B) (k : Keeps B C) : Keeps A C := ⟨Nat.le_trans h.1 k.1, fun i o e t => k.2 i o (h.2 i o e t) t⟩
theorem Keeps.of_below {W W' : World} (h : Below W.heap.size W W') : Keeps W W' := ⟨h.size, fun k o e _ => (h.block k (Array.getElem?_eq_some_iff.1 e).1).trans e⟩
theorem Keeps.of_turns {T : Obj → Prop} {B : Nat} {W W' : World} (h : Turns T B W W') (hT : ∀ o, TL o → ¬ T o) : Keeps W W' := ⟨h.below.size, fun k o e t => h.block k o e (hT o t)⟩
theorem Keeps.setCell {W : World} {p : Addr} {cs : Array Value} {t : TypeId} {f : Nat × Nat} (h : W.heap[p.block]? = some (.cells cs t f)) (v : Value) : Keeps W (W.setCell p v) :=
  ⟨by simp [World.setCell], fun k o e ht => (Below.heap_setCell _ _ _ _ (fun c => by subst c; rw [h] at e; cases e; exact TL_cells _ _ _ ht)).trans e⟩

/-- What an iterator tells, one after another, to whatever body keeps what it needs. -/
def EachT (P : Program) (g : Nat) (lb : Array Value) (encs : Nat → Array Value) (M : Nat) (Ok : World → Prop) : Prop :=
  ∀ (l : Nat) (J : Nat → World → Prop) (Jx : World → Prop) (W : World), (∀ i A, J i A → Ok A) → (∀ i A k, J i A → J i (A.drewN k)) → (∀ A k, Jx A → Jx (A.drewN k)) →
    (∀ i A, i < M → J i A → YieldAt Fence.wide 0 P l (encs i) A fun e B => (e = .returned (.bool true) ∧ J (i + 1) B) ∨ (e = .returned (.bool false) ∧ Jx B)) →
    J 0 W → Calls P g (#[.func (.yield l) #[] #[]] ++ lb) W fun e W' => (∃ v, e = .returned v) ∧ (J M W' ∨ Jx W')
theorem yield_wideE {m m' : Nat} {P : Program} {l : Nat} {args : Array Value} {W : World} {R : Ending → World → Prop} (h : YieldAt Fence.wide m P l args W R) : YieldAt Fence.wide m' P l args W R := by
  obtain ⟨fn, tmps, assign, body, hy, hR⟩ := h
  exact ⟨fn, tmps, assign, body, hy, hR.1, fun c cs _ => hR.2 c cs (room_wide _)⟩
/-- How the body of a round may be left. -/
def eachPost (I : Nat → World → Prop) (Ix : Code → World → Prop) (i : Nat) (W : World) : Exit → Act → World → Prop
  | .normal, _, W' => Keeps W W' ∧ I i W'
  | .ret, _, W' => Keeps W W' ∧ Ix .ret W'
  | .exit id, _, W' => Keeps W W' ∧ Ix (.exit id) W'
  | .goto t, _, W' => Keeps W W' ∧ Ix (.goto t) W'
  | .panic _, _, _ => False
  | .outgrown, _, _ => False

/-- The loop. -/
theorem wp_each {P : Program} {m : Nat} {g : Operand} {ps : Array Tmp} {assign body : Code} {Q : Exit → Act → World → Prop} {a : Act} {w : World}
    (h1 : 1 ≤ m) {gf : Nat} {lb : Array Value} (hg : a.eval g = .func (.func gf) #[] lb) (eg : ∀ args w, (callFunc gf args).run P w = .ok (.enter gf args) w)
    {encs : Nat → Array Value} {M : Nat} {Ok : World → Prop} (hseq : EachT P gf lb encs M Ok) (hps : ∀ i, (encs i).size = ps.size)
    (I : Nat → World → Prop) (Ix : Code → World → Prop) (hOk : ∀ i A, I i A → Ok A)
    (hI : ∀ i A B, I i A → Turns TL w.heap.size A B → I i B) (hIx : ∀ c A B, Ix c A → Turns TL w.heap.size A B → Ix c B)
    (h0 : I 0 w)
    (Ax : Nat → Act → World → Prop) (hAx : ∀ i a' A B, Ax i a' A → Turns TL w.heap.size A B → Ax i a' B)
    (hassign : ∀ (l i : Nat) (W : World) (K : Act → World → Prop), w.heap.size ≤ W.heap.size → I i W → (∀ a' W', Turns TL w.heap.size W W' → Keeps W W' → Ax i a' W' → K a' W') →
      assign.wpIn (Fence.wide.inRound l) (m - 1 - 1) P (Exit.then K (fun _ _ _ => False)) { tmps := (ps.zip (encs i)).foldl (fun t (p, v) => t.setIfInBounds p v) a.tmps, defers := [] } W)
    (hbody : ∀ (l i : Nat) (a' : Act) (W : World), w.heap.size + 2 ≤ W.heap.size → I i W → Ax i a' W → i < M → body.wpIn (Fence.wide.inRound l) (m - 1 - 1) P (eachPost I Ix (i + 1) W) a' W)
    (hdone : ∀ (D : Nat) (W : World), D = w.heap.size → I M W → W.heap[D]? = some (.deferred (some [])) → Q .normal { a with defers := { target := .collected D, args := #[] } :: a.defers } W)
    (hstop : ∀ (D : Nat) (c : Code) (W : World), D = w.heap.size → Ix c W → W.heap[D]? = some (.deferred (some [])) → c.wpIn Fence.wide m P Q { a with defers := { target := .collected D, args := #[] } :: a.defers } W) :
    (Code.rangeFunc g ps assign body).wpIn Fence.wide m P Q a w := by
  refine wpIn_rangeFunc ?_
  intro fn _
  obtain ⟨rec, hrec⟩ : ∃ rec : LoopState → Option Code → Loop, rec = fun s pe => { state := s, pending := pe, fn, tmps := a.tmps, params := ps, assign, body, defers := w.heap.size } := ⟨_, rfl⟩
  obtain ⟨W1, hW1⟩ : ∃ W1, (w.alloc (.deferred (some []))).alloc (.loop (rec .ready none)) = W1 := ⟨_, rfl⟩
  have hz1 : W1.heap.size = w.heap.size + 2 := by rw [← hW1]; simp
  have bw : Below w.heap.size w W1 := by rw [← hW1]; exact ((Below.refl _ w).alloc (Nat.le_refl _) _).alloc (by simp) _
  have hL1 : W1.heap[w.heap.size + 1]? = some (.loop (rec .ready none)) := by
    rw [← hW1]; have := World.alloc_heap_new (w.alloc (.deferred (some []))) (.loop (rec .ready none)); rwa [World.size_alloc] at this
  have hD1 : W1.heap[w.heap.size]? = some (.deferred (some [])) := by
    rw [← hW1]; exact (Below.heap_alloc _ _ _ (by simp)).trans (World.alloc_heap_new w _)
  have i1 : Turns TL w.heap.size w W1 := .of_below (Nat.le_refl _) bw
  have hI1 : I 0 W1 := hI _ _ _ h0 i1
  have drew : ∀ (A : World) (k : Nat), Turns TL w.heap.size A (A.drewN k) := fun A k => ⟨⟨rfl, rfl, rfl, Nat.le_refl _, fun _ _ => rfl⟩, fun _ _ h _ => h⟩
  let J : Nat → World → Prop := fun i W => I i W ∧ W.heap[w.heap.size + 1]? = some (.loop (rec .ready none)) ∧ W.heap[w.heap.size]? = some (.deferred (some []))
  let Jx : World → Prop := fun W => (∃ c, Ix c W ∧ W.heap[w.heap.size + 1]? = some (.loop (rec .done (some c)))) ∧ W.heap[w.heap.size]? = some (.deferred (some []))
  refine ⟨w.heap.size + 1, [{ target := .collected w.heap.size, args := #[] }], W1, { target := .fn (.func gf) lb, args := #[.func (.yield (w.heap.size + 1)) #[] #[]] }, W1, gf,
    #[.func (.yield (w.heap.size + 1)) #[] #[]] ++ lb, W1, ?_, ?_, fun _ _ => trivial, ?_, fun _ => h1, ?_⟩
  · rw [← hW1, hrec]; exact run_enterLoop_outer _ _ _ _ _
  · simp only [resolve, hg]
    simp [go_sem]
  · simp [invoke, go_sem, eg]
  · refine (callsIn_wide.2 (hseq (w.heap.size + 1) J Jx W1 (fun i A h => hOk i A h.1)
      (fun i A k h => ⟨hI _ _ _ h.1 (drew A k), h.2.1, h.2.2⟩)
      (fun A k h => by
        obtain ⟨⟨c, hc, hl⟩, h2⟩ := h
        exact ⟨⟨c, hIx _ _ _ hc (drew A k), hl⟩, h2⟩)
      ?_ ⟨hI1, hL1, hD1⟩)).mono ?_
    · -- one round
      rintro i W hM ⟨hi, hl, hd⟩
      have hlt1 : w.heap.size + 1 < W.heap.size := (Array.getElem?_eq_some_iff.1 hl).1
      have hy := run_yield (P := P) (args := encs i) hl (by rw [hrec]; exact hps i)
      rw [hrec] at hy
      refine yield_wideE (m := m - 1 - 1) ⟨fn, _, assign, body, hy, roundIn_of_wpIn trivial (hassign _ i W _ (by omega) hi ?_)⟩
      intro a' Wa ta ka hax
      have hla : Wa.heap[w.heap.size + 1]? = some (.loop (rec .ready none)) := ka.2 _ _ hl (.inl ⟨_, rfl⟩)
      have hda : Wa.heap[w.heap.size]? = some (.deferred (some [])) := ka.2 _ _ hd (.inr ⟨_, rfl⟩)
      have hza := ka.1
      refine ⟨_, run_beginRound hla (by rw [hrec]), ?_⟩
      obtain ⟨Wb, hWb⟩ : ∃ Wb, Wa.putObj (w.heap.size + 1) (.loop { rec .ready none with state := .busy }) = Wb := ⟨_, rfl⟩
      have tb : Turns TL w.heap.size Wa Wb := by rw [← hWb]; exact turnsL_put (by omega) (fun o' e => by rw [hla] at e; cases e; exact .inl ⟨_, rfl⟩)
      have hzb : Wa.heap.size ≤ Wb.heap.size := tb.below.size
      have hlb : Wb.heap[w.heap.size + 1]? = some (.loop { rec .ready none with state := .busy }) := by rw [← hWb]; exact World.putObj_heap_same (by omega)
      have hdb : Wb.heap[w.heap.size]? = some (.deferred (some [])) := by rw [← hWb]; exact (World.putObj_heap_other (by omega)).trans hda
      have hib : I i Wb := hI _ _ _ (hI _ _ _ hi ta) tb
      have haxb : Ax i a' Wb := hAx _ _ _ _ hax tb
      rw [hWb]
      -- from the round's beginning to its end
      have fin : ∀ (jump : Option Code) (W3 : World), Keeps Wb W3 → ∃ W4, (Instr.endRound (w.heap.size + 1) jump).run P W3 = .ok (.bool jump.isNone) W4 ∧ Turns TL w.heap.size W3 W4 ∧
          W4.heap[w.heap.size + 1]? = some (.loop (rec (if jump.isNone then .ready else .done) jump)) ∧ W4.heap[w.heap.size]? = some (.deferred (some [])) := fun jump W3 r3 => by
        have h3 := r3.1
        have hl3 : W3.heap[w.heap.size + 1]? = some (.loop { rec .ready none with state := .busy }) := r3.2 _ _ hlb (.inl ⟨_, rfl⟩)
        have hd3 : W3.heap[w.heap.size]? = some (.deferred (some [])) := r3.2 _ _ hdb (.inr ⟨_, rfl⟩)
        have i4 : Turns TL w.heap.size W3 (W3.putObj (w.heap.size + 1) (.loop (rec (if jump.isNone then .ready else .done) jump))) := turnsL_put (by omega) (fun o' e => by rw [hl3] at e; cases e; exact .inl ⟨_, rfl⟩)
        have hr := run_endRound (P := P) jump hl3
        rw [hrec] at hr
        exact ⟨W3.putObj (w.heap.size + 1) (.loop (rec (if jump.isNone then .ready else .done) jump)), by rw [hrec]; exact hr, i4, World.putObj_heap_same (by omega), (World.putObj_heap_other (by omega)).trans hd3⟩
      refine wpIn_mono (hbody _ i a' _ (by omega) hib haxb hM) ?_
      rintro e a3 W3 hp
      cases e with
      | normal =>
        obtain ⟨r3, hi3⟩ := hp
        obtain ⟨W4, hr, i4, hl4, hd4⟩ := fin none W3 r3
        exact ⟨_, _, hr, .inl ⟨rfl, hI _ _ _ hi3 i4, hl4, hd4⟩⟩
      | ret =>
        obtain ⟨r3, hi3⟩ := hp
        obtain ⟨W4, hr, i4, hl4, hd4⟩ := fin (some .ret) W3 r3
        exact ⟨_, _, hr, .inr ⟨rfl, ⟨.ret, hIx _ _ _ hi3 i4, hl4⟩, hd4⟩⟩
      | exit id =>
        obtain ⟨r3, hi3⟩ := hp
        obtain ⟨W4, hr, i4, hl4, hd4⟩ := fin (some (.exit id)) W3 r3
        exact ⟨_, _, hr, .inr ⟨rfl, ⟨.exit id, hIx _ _ _ hi3 i4, hl4⟩, hd4⟩⟩
      | goto t =>
        obtain ⟨r3, hi3⟩ := hp
        obtain ⟨W4, hr, i4, hl4, hd4⟩ := fin (some (.goto t)) W3 r3
        exact ⟨_, _, hr, .inr ⟨rfl, ⟨.goto t, hIx _ _ _ hi3 i4, hl4⟩, hd4⟩⟩
      | panic ch => exact hp.elim
      | outgrown => exact hp.elim
    · -- behind the iterator
      rintro e W2 ⟨⟨v, rfl⟩, hj⟩
      rcases hj with ⟨hi, hl, hd⟩ | ⟨⟨c, hi, hl⟩, hd⟩
      · have i3 : Turns TL w.heap.size W2 (W2.putObj (w.heap.size + 1) (.loop { rec .ready none with state := .exhausted })) := turnsL_put (by omega) (fun o' e => by rw [hl] at e; cases e; exact .inl ⟨_, rfl⟩)
        exact ⟨none, _, by have := run_endLoop (P := P) hl (by rw [hrec]; simp); rw [hrec] at this ⊢; exact this, hdone _ _ rfl (hI _ _ _ hi i3) ((World.putObj_heap_other (by omega)).trans hd)⟩
      · have i3 : Turns TL w.heap.size W2 (W2.putObj (w.heap.size + 1) (.loop { rec .done (some c) with state := .exhausted })) := turnsL_put (by omega) (fun o' e => by rw [hl] at e; cases e; exact .inl ⟨_, rfl⟩)
        exact ⟨some c, _, by have := run_endLoop (P := P) hl (by rw [hrec]; simp); rw [hrec] at this ⊢; exact this, hstop _ c _ rfl (hIx _ _ _ hi i3) ((World.putObj_heap_other (by omega)).trans hd)⟩
/-- The loop, where each round begins with the same but for what is told. -/
theorem wp_eachT {P : Program} {m : Nat} {g : Operand} {ps : Array Tmp} {assign body : Code} {Q : Exit → Act → World → Prop} {a : Act} {w : World}
    (h1 : 1 ≤ m) {gf : Nat} {lb : Array Value} (hg : a.eval g = .func (.func gf) #[] lb) (eg : ∀ args w, (callFunc gf args).run P w = .ok (.enter gf args) w)
    {encs : Nat → Array Value} {M : Nat} {Ok : World → Prop} (hseq : EachT P gf lb encs M Ok) (hps : ∀ i, (encs i).size = ps.size)
    (I : Nat → World → Prop) (Ix : Code → World → Prop) (hOk : ∀ i A, I i A → Ok A)
    (hI : ∀ i A B, I i A → Turns TL w.heap.size A B → I i B) (hIx : ∀ c A B, Ix c A → Turns TL w.heap.size A B → Ix c B)
    (h0 : I 0 w) (T : Array Value → Nat → Array Value)
    (hassign : ∀ (l i : Nat) (W : World) (K : Act → World → Prop), (∀ a', a' = { tmps := T a.tmps i, defers := [] } → K a' W) →
      assign.wpIn (Fence.wide.inRound l) (m - 1 - 1) P (Exit.then K (fun _ _ _ => False)) { tmps := (ps.zip (encs i)).foldl (fun t (p, v) => t.setIfInBounds p v) a.tmps, defers := [] } W)
    (hbody : ∀ (l i : Nat) (W : World), w.heap.size + 2 ≤ W.heap.size → I i W → i < M → body.wpIn (Fence.wide.inRound l) (m - 1 - 1) P (eachPost I Ix (i + 1) W) { tmps := T a.tmps i, defers := [] } W)
    (hdone : ∀ (D : Nat) (W : World), D = w.heap.size → I M W → W.heap[D]? = some (.deferred (some [])) → Q .normal { a with defers := { target := .collected D, args := #[] } :: a.defers } W)
    (hstop : ∀ (D : Nat) (c : Code) (W : World), D = w.heap.size → Ix c W → W.heap[D]? = some (.deferred (some [])) → c.wpIn Fence.wide m P Q { a with defers := { target := .collected D, args := #[] } :: a.defers } W) :
    (Code.rangeFunc g ps assign body).wpIn Fence.wide m P Q a w :=
  wp_each h1 hg eg hseq hps I Ix hOk hI hIx h0 (fun i a' _ => a' = { tmps := T a.tmps i, defers := [] }) (fun _ _ _ _ h _ => h)
    (fun l i W K _ _ hK => hassign l i W K fun a' ea => hK a' W (Turns.refl _ _ _) (Keeps.refl _) ea)
    (fun l i a' W hz hi ea hM => by subst ea; exact hbody l i W hz hi hM) hdone hstop
end Go.Proofs.YtophhnolnlbecaaDoor
