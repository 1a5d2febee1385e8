/- Package block's Hand.Plant: its contract. No statement is proved here. -/
import Derived.Test.YtonjapphhbhcpaaDoorJ10
import Derived.Test.YtonjapphhbhcpaaDoorGRow
import Derived.Test.YtonjapphhbhcpaaDoorDEnt
namespace Go.Proofs.YtonjapphhbhcpaaDoor
open Go.RowKit
open Go.Maps (Keyed IsMap Tidy)
set_option maxRecDepth 100000

theorem asRow_splice (l : List Int) : splice (zeroV 512) 0 (btV (l.take 512)) = btV (asRow l) := by
  rw [show zeroV 512 = btV (List.replicate 512 0) from zeroV_bt 512, splice_bt]
  congr 1
  unfold spl asRow
  rw [List.take_zero, List.nil_append, List.drop_replicate, List.length_take, Nat.zero_add]
  congr 2
  omega
theorem inB_take {w : World} {a : Option Addr} {l : List Int} (h : InB w a l) (k : Nat) : InB w a (l.take k) := fun i x hx => h i x (by
  rw [List.getElem?_take] at hx
  split at hx
  · exact hx
  · cases hx)
theorem ownW_base {w : World} {B B' n : Nat} {v : Value} {xs : List Value} (h : w.ownsRow B' 95 2 v n xs) (hB : B ≤ B') : w.ownsRow B 95 2 v n xs := by
  obtain ⟨h1, h2⟩ := h
  refine ⟨h1, ?_⟩
  rcases h2 with h2 | ⟨g, cap, cur, hv, hb, hrest⟩
  · exact .inl h2
  · exact .inr ⟨g, cap, cur, hv, Nat.le_trans hB hb, hrest⟩
theorem ownW_block {w : World} {B n : Nat} {v : Value} {xs : List Value} (h : w.ownsRow B 95 2 v n xs) : ∀ b, v.ownBlock = some b → B ≤ b := by
  obtain ⟨h1, h2⟩ := h
  rcases h2 with ⟨hv, -⟩ | ⟨g, cap, cur, hv, hb, hrest⟩
  · intro b e; rw [hv] at e; cases e
  · intro b e
    rw [hv] at e
    injection e with e
    subst e
    exact hb
theorem ownW_form {w : World} {B n : Nat} {v : Value} {xs : List Value} (h : w.ownsRow B 95 2 v n xs) : ∃ a c, v = .slice a n c := by
  obtain ⟨h1, h2⟩ := h
  rcases h2 with ⟨hv, hz⟩ | ⟨g, cap, cur, hv, hb, hrest⟩
  · exact ⟨none, 0, by rw [hv, hz]⟩
  · exact ⟨_, cap, hv⟩
/-- Another row of writes waits. -/
theorem BoxOf.swapped {w w' : World} {B : Base} {g N N' : Nat} {d : Dk} {s : Spot} (h : BoxOf w B g d N s) (hb : Below w.heap.size w w') {v : Value} {l' : List (Nat × List Int)} {vs : List Value} (own : w'.ownsRow w.heap.size 95 2 v l'.length (waitC l' vs)) (hlen : vs.length = l'.length)
    (rows : ∀ (x : Nat) (p : Nat × List Int) (u : Value), l'[x]? = some p → vs[x]? = some u → RowAt w B u p.2) (hS : s.nS + l'.length ≤ N') (hN : s.nN ≤ N') :
    BoxOf (w'.setCell ⟨g, 3, none⟩ v) B g { d with wait := l' } N' { s with wv := v, vs := vs } ∧ Turns TB B.lo w (w'.setCell ⟨g, 3, none⟩ v) := by
  have h' := h.then_ hb
  have hoff : ∀ b, b ≠ g → (w'.setCell ⟨g, 3, none⟩ v).heap[b]? = w'.heap[b]? := fun b hne => set_off _ _ hne
  have keep : ∀ v' r, RowAt w' B v' r → RowAt (w'.setCell ⟨g, 3, none⟩ v) B v' r := fun v' r hx => hx.keep fun b hb' => hoff b (h'.rowNe hx b hb').1
  refine ⟨?_, (Turns.of_below (Nat.le_trans h.gB (Nat.le_of_lt h.lt)) hb).setCell (p := ⟨g, 3, none⟩) h'.box (TB_box _ _) h.gB _⟩
  exact {
    box := set_heap (i := 3) h'.box _
    gB := h.gB
    sB := h.sB
    nB := h.nB
    ne := h.ne
    mapS := owns_keep h'.mapS (hoff _ h'.gsb.symm)
    mapN := owns_keep h'.mapN (hoff _ h'.gnb.symm)
    isS := h'.isS.keep keep
    isN := h'.isN.keep keep
    wlen := hlen
    wait := row_keepW (ownW_base own (Nat.le_trans h.gB (Nat.le_of_lt h.lt))) fun b hb' => hoff b (fun e => by have := ownW_block own b hb'; have := h.lt; omega)
    rows := fun i p u h1 h2 => keep _ _ ((rows i p u h1 h2).then_ hb)
    numS := hS
    numN := hN
    many := h.many
    acts := h.acts }
theorem but_len (l : List (Nat × List Int)) (k : Nat) : (but l k).length ≤ l.length := List.length_filter_le _ _
set_option maxHeartbeats 4000000 in
theorem plant_any (h g : Nat) (at_ : Int) (la : Option Addr) (n c : Nat) (l : List Int) (w : World) (B : Base) (N : Nat) (d : Dk) (ha : okInt at_) (hh : w.heap[h]? = some (.cells #[.pointer (some ⟨g, 0, none⟩)] 80)) (hb : BoxAt w B g d N) (hin : InB w la l) (hn : l.length = n) (hN : N ≤ 1099511627776) (hX : ∀ y, B.off = some y → y < w.heap.size) :
    Calls Tryd.prog 29 #[.pointer (some ⟨h, 0, none⟩), .int .i64 at_, .slice la n c] w fun e w' => e = .returned (.tuple #[]) ∧ BoxAt w' B g (d.plant at_ l) (N + 1) ∧ Turns TB B.lo w w' := by
  obtain ⟨hok, s, hb⟩ := hb
  obtain ⟨q0, q1, q2, q3, q4, q5, q6, q7⟩ := boxC_get d s.sb s.nb s.wv
  have c0 := (hb.cells 0).trans q0
  have h0 : w.cell? ⟨h, 0, none⟩ = some (.pointer (some ⟨g, 0, none⟩)) := row_cells hh 0
  have hm := hb.many
  have HB := Lib.hid (And.intro hb (And.intro hok hh))
  have HI := Lib.hid (And.intro hin hn)
  unfold okInt at ha
  clear q0 q1 q2 q3 q4 q5 q6 q7 hok hb hin hn
  by_cases hr : 0 ≤ at_ ∧ at_ < d.many
  · obtain ⟨hr1, hr2⟩ := hr
    obtain ⟨k, rfl⟩ := Int.eq_ofNat_of_zero_le hr1
    have hkm : k < d.many := by omega
    have hmk : ∀ w : World, (Instr.makeSlice 24 (.int .i64 512) (.int .i64 512)).run Tryd.prog w = .ok (.slice (some ⟨w.heap.size, 0, none⟩) 512 512) (w.alloc (.cells (zeroV 512).toArray 5)) := fun w => by have := make_zero 512 (by omega) w; simpa using this
    go_enter Tryd.func29, Tryd.ntmps29
    go_wp2_with (show wpList _ _ _ (⟨some 26, _, _, _, _, _⟩ :: _) _ _; refine wpList_copy_splice (o := ⟨some 26, _, _, _, _, _⟩) rfl (.tmp 24) (.tmp 25) 24 24 rfl 5 Tryd.underlying24 size_byte' _ _ _ _ _ _ rfl rfl w.heap.size 0 (zeroV 512) 5 (heap_alloc_new w _) (btV (l.take 512)) (by rw [btV_len, List.length_take, HI.out.2]; exact Nat.min_comm _ _) (fun hp => ⟨rfl, InB.src ((inB_take HI.out.1 512).then_ (below1 w _)) (Below.refl _ _) (by rw [btV_len] at hp; exact hp)⟩) (by rw [btV_len, List.length_take, zeroV_len]; omega) (btV_one _) w.heap.size w (below1 w _) (Nat.le_refl _) ?_; intro w2 hg2 hb2; rw [asRow_splice] at hg2; have HG2 := Lib.hid hg2.out; have HB2 := Lib.hid hb2; clear hg2 hb2)
    have HR2 := Lib.hid (row_made (w := w2.drew) (asRow_len l) HG2.out (Nat.le_trans HB.out.1.gB (Nat.le_of_lt HB.out.1.lt)) (fun e => by have := hX _ e; omega))
    have H2 := Lib.hid (HB.out.1.then_ HB2.out.drew)
    have HH2 := Lib.hid ((HB2.out.block h (lt_of_block HB.out.2.2)).trans HB.out.2.2)
    have hHN : s.nS + d.wait.length ≤ N ∧ s.nN ≤ N := ⟨HB.out.1.numS, HB.out.1.numN⟩
    have hkk := key_at (k := (k : Int)) (by unfold okInt; omega)
    obtain ⟨v3, t3, w3, r3, -, w4, r4, o4, g4⟩ := entry_own H2.out.mapS keyK Tryd.underlying75 zero_row (by unfold maxLen; omega) hkk (rowR_mk w.heap.size 512 512)
    have H4 := Lib.hid (H2.out.lay k HR2.out rfl o4 g4)
    obtain ⟨v5, t5, w5, r5, -, w6, r6, o6, g6⟩ := entry_own H4.out.1.mapN keyK Tryd.underlying75 zero_row (by unfold maxLen; show s.nN < _; omega) hkk (rowR_mk w.heap.size 512 512)
    have H6 := Lib.hid (H4.out.1.half k (HR2.out.turns H4.out.2 (fun cur => TB_byte _ _)) rfl o6 g6)
    clear o4 g4 o6 g6 hkk
    have h02 : w2.cell? ⟨h, 0, none⟩ = some (.pointer (some ⟨g, 0, none⟩)) := row_cells HH2.out 0
    obtain ⟨-, q1, q2, -⟩ := boxC_get d s.sb s.nb s.wv
    have c12 := (H2.out.cells 1).trans q1
    have c22 := (H2.out.cells 2).trans q2
    clear q1 q2
    go_wp2_with fail
    go_region
    clear r3 r4 r5 r6 h02 c12 c22
    have T6 := Lib.hid ((Turns.of_below (T := TB) (Nat.le_trans HB.out.1.gB (Nat.le_of_lt HB.out.1.lt)) HB2.out.drew).trans (H4.out.2.trans H6.out.2))
    have HH6 := Lib.hid (T6.out.block _ _ HB.out.2.2 (TB_no (by decide) (by decide) _ _))
    have h06 : w6.cell? ⟨h, 0, none⟩ = some (.pointer (some ⟨g, 0, none⟩)) := row_cells HH6.out 0
    obtain ⟨a, cw, ew, -⟩ := H6.out.1.wform
    have c36 := (H6.out.1.cells 3).trans (boxC_get _ _ _ _).2.2.2.1
    rw [ew] at c36
    have HEW := Lib.hid ew
    replace HEW : Hid (s.wv = .slice a d.wait.length cw) := HEW
    have c36' : w6.cell? ⟨g, 3, none⟩ = some (.slice a d.wait.length cw) := c36
    have hhl := lt_of_block HH6.out
    have hnw : d.wait.length ≤ 1099511627776 := by omega
    obtain ⟨i0, hi0, hz0, hz1, hz2⟩ := info_parts info_write
    have I0 := Lib.hid (And.intro hi0 (And.intro hz0 (And.intro hz1 hz2)))
    clear ew c36 hi0 hz0 hz1 hz2
    go_wp2_with fail
    go_loopw [7, 9, 57] (fun lv _ i wr => ∃ (j : Nat) (vs : List Value), j ≤ d.wait.length ∧ i = .int .i64 (j : Int) ∧ Hid (Below w6.heap.size w6 wr ∧ wr.ownsRow w6.heap.size 95 2 lv (but (d.wait.take j) k).length (waitC (but (d.wait.take j) k) vs) ∧ vs.length = (but (d.wait.take j) k).length ∧ ∀ (x : Nat) (p : Nat × List Int) (u : Value), (but (d.wait.take j) k)[x]? = some p → vs[x]? = some u → RowAt w6 B u p.2)) (fun _ _ i _ => d.wait.length - (intOf i).toNat)
    case atStart => exact ⟨0, [], by omega, rfl, Below.refl _ _, World.ownsRow_nil _ _ _ _, rfl, fun x p u e => by simp [but] at e⟩
    case round =>
      obtain ⟨j, vs, hj, rfl, HK⟩ := hrel
      replace HK := Lib.hid HK
      by_cases hlt : j < d.wait.length
      · obtain ⟨p, hp⟩ : ∃ p, d.wait[j]? = some p := ⟨_, List.getElem?_eq_getElem hlt⟩
        obtain ⟨a', cw', ew', hel⟩ := H6.out.1.wform
        obtain ⟨ga, v, ea, hvs, hrow, hgl, e1, e2⟩ := hel j p hp
        subst ea
        have ewa : a = some ⟨ga, 0, none⟩ ∧ cw = cw' := by
          have := HEW.out.symm.trans ew'
          injection this with t1 t2 t3
          exact ⟨t1, t3⟩
        obtain ⟨rfl, rfl⟩ := ewa
        obtain ⟨b, m, cv, rfl⟩ := find_row hrow
        have HP := Lib.hid (And.intro hp hrow)
        rw [Nat.mul_comm 2 j] at e1 e2
        have z1 := (HK.out.1.cell (p := ⟨ga, j * 2, none⟩) hgl).trans e1
        have z2 := (HK.out.1.cell (p := ⟨ga, j * 2 + 1, none⟩) hgl).trans e2
        have htk : d.wait.take (j + 1) = d.wait.take j ++ [p] := by rw [List.take_add_one, hp]; rfl
        have HT := Lib.hid htk
        clear hel hvs hp hrow ew' e1 e2 htk
        by_cases he : p.1 = k
        · have q : ((p.1 : Int) != (k : Int)) = false := by simp [he]
          have HBt := Lib.hid (show but (d.wait.take (j + 1)) k = but (d.wait.take j) k by rw [HT.out]; unfold but; rw [List.filter_append]; simp [he])
          clear he
          go_wp2_with fail
          go_roundw
          case rel => exact ⟨j + 1, vs, by omega, by go_num, by rw [HBt.out]; exact ⟨HK.out.1.alloc HK.out.1.size _, World.ownsRow.alloc HK.out.2.1 _, HK.out.2.2.1, HK.out.2.2.2⟩⟩
          case measure => simp [intOf]; omega
        · have q : ((p.1 : Int) != (k : Int)) = true := by simp; omega
          have HBt := Lib.hid (show but (d.wait.take (j + 1)) k = but (d.wait.take j) k ++ [p] by rw [HT.out]; unfold but; rw [List.filter_append]; simp [he])
          clear he
          have hbl : (but (d.wait.take j) k).length ≤ 1099511627776 := by have h1 := but_len (d.wait.take j) k; have h2 := List.length_take_le j d.wait; have h3 : (d.wait.take j).length ≤ d.wait.length := by rw [List.length_take]; omega
                                                                          omega
          go_wp2_with (show wpList _ _ _ (⟨some 68, _, _, _, _, _⟩ :: _) _ _; go_loud (refine wpList_append_own_at _ rfl (.tmp 65) (.tmp 67) 76 rfl w6.heap.size 95 i0 _ 2 32 Tryd.underlying76 I0.out.1 I0.out.2.1 I0.out.2.2.1 I0.out.2.2.2 rfl (by decide) _ (but (d.wait.take j) k).length _ rfl (World.ownsRow.alloc (World.ownsRow.alloc HK.out.2.1 _) _) ⟨wr.heap.size + 1, 0, none⟩ 1 1 [.int .i64 (p.1 : Int), .slice (some ⟨b, 0, none⟩) m cv] rfl rfl (fun j u hu => (by have hnw := news_at (wr.alloc (.cells #[.int .i64 (p.1 : Int), .slice (some ⟨b, 0, none⟩) m cv] 95)) #[.int .i64 (p.1 : Int), .slice (some ⟨b, 0, none⟩) m cv] 95 _ rfl j u hu; rw [show (wr.alloc (.cells #[.int .i64 (p.1 : Int), .slice (some ⟨b, 0, none⟩) m cv] 95)).heap.size = wr.heap.size + 1 by simp] at hnw; exact hnw)) (by intro u hu; simp at hu; rcases hu with rfl | rfl <;> rfl) (by unfold maxLen; omega) (by omega) (((HK.out.1.alloc HK.out.1.size _).alloc (HK.out.1.alloc HK.out.1.size _).size _).size) ?_; intro v7 w7 own7 grow7 _ _; have G7 := Lib.hid (And.intro own7 (((HK.out.1.alloc HK.out.1.size _).alloc (HK.out.1.alloc HK.out.1.size _).size _).grown grow7 ((HK.out.1.alloc HK.out.1.size _).alloc (HK.out.1.alloc HK.out.1.size _).size _).size (fun x e => ownW_block HK.out.2.1 x e))); clear own7 grow7))
          refine ⟨⟨j + 1, vs ++ [.slice (some ⟨b, 0, none⟩) m cv], by omega, by go_num, ?_⟩, by simp [intOf]; omega⟩
          rw [HBt.out, List.length_append, List.length_singleton, waitC_snoc _ _ HK.out.2.2.1]
          refine ⟨G7.out.2, G7.out.1, by rw [List.length_append, HK.out.2.2.1]; rfl, fun x p' u h1 h2 => ?_⟩
          by_cases hx : x < (but (d.wait.take j) k).length
          · rw [List.getElem?_append_left hx] at h1
            rw [List.getElem?_append_left (by rw [HK.out.2.2.1]; exact hx)] at h2
            exact HK.out.2.2.2 x p' u h1 h2
          · have hx2 := lt_of_get h1
            rw [List.length_append, List.length_singleton] at hx2
            have e : x = (but (d.wait.take j) k).length := by omega
            rw [e, List.getElem?_append_right (Nat.le_refl _), Nat.sub_self] at h1
            rw [e, ← HK.out.2.2.1, List.getElem?_append_right (Nat.le_refl _), Nat.sub_self] at h2
            injection h1 with h1
            injection h2 with h2
            subst h1 h2
            exact HP.out.2
      · have hjn : j = d.wait.length := by omega
        subst hjn
        have HD := Lib.hid (show ({ (d.lay k (asRow l)).half k (asRow l) with wait := but d.wait k } : Dk) = d.plant (k : Int) l by
          unfold Dk.plant
          rw [if_pos ⟨hr1, hr2⟩, Int.toNat_natCast]
          rfl)
        have HKT := HK.out
        rw [List.take_of_length_le (Nat.le_refl _)] at HKT
        have h07 := (HK.out.1.cell (p := ⟨h, 0, none⟩) hhl).trans h06
        have c37 := (HK.out.1.cell (p := ⟨g, 3, none⟩) H6.out.1.lt).trans c36'
        have f37 : wr.frozen? ⟨g, 3, none⟩ = false := (H6.out.1.then_ HK.out.1).frozen 3
        obtain ⟨al, cl, rfl⟩ := ownW_form HKT.2.1
        have HX : Hid (BoxAt (wr.setCell ⟨g, 3, none⟩ (.slice al (but d.wait k).length cl)) B g (d.plant (k : Int) l) (N + 1) ∧ Turns TB B.lo w6 (wr.setCell ⟨g, 3, none⟩ (.slice al (but d.wait k).length cl))) := Lib.hid (by
          have hx := H6.out.1.swapped (N' := N + 1) HKT.1 HKT.2.1 HKT.2.2.1 HKT.2.2.2 (by have := but_len d.wait k; show s.nS + 1 + _ ≤ N + 1; omega) (by show s.nN + 1 ≤ N + 1; omega)
          rw [← HD.out]
          exact ⟨⟨by rw [HD.out]; exact Dk.plant_ok HB.out.2.1 _ _, _, hx.1⟩, hx.2⟩)
        clear HKT
        go_wp2_with fail
        exact ⟨rfl, .tuple #[], results_void rfl _ _, rfl, HX.out.1, T6.out.trans HX.out.2⟩
  · have hX : Hid (d.plant at_ l = d) := Lib.hid (by unfold Dk.plant; rw [if_neg hr])
    have HE : Hid (BoxAt w B g (d.plant at_ l) (N + 1)) := Lib.hid (by rw [hX.out]; exact BoxAt.more ⟨HB.out.2.1, s, HB.out.1⟩ (Nat.le_succ _))
    by_cases h1 : at_ < 0
    · clear hr
      go_enter Tryd.func29, Tryd.ntmps29
      go_wp2_with fail
      exact ⟨rfl, .tuple #[], results_void rfl _ _, rfl, HE.out, Turns.refl _ _ _⟩
    · have h2 : (d.many : Int) ≤ at_ := by omega
      clear hr
      go_enter Tryd.func29, Tryd.ntmps29
      go_wp2_with fail
      exact ⟨rfl, .tuple #[], results_void rfl _ _, rfl, HE.out, Turns.refl _ _ _⟩
end Go.Proofs.YtonjapphhbhcpaaDoor
