/- The document's own disk: a write put behind those that wait. The document's own disk: Write. The document's own pages on its own disk: Pages, Write. The document's own Read of a page. No statement is proved here. -/
import Derived.Test.YtonjapphhbhcpaaDoorJ6
import Derived.Test.YtonjapphhbhcpaaDoorAppSem
import Derived.Maps.AppendAt
import Derived.Test.YtonjapphhbhcpaaDoorJ8
import Derived.Test.YtonjapphhbhcpaaDoorGOps
namespace Go.Proofs.YtonjapphhbhcpaaDoor
open Go.RowKit
set_option maxRecDepth 100000

/-- Behind an append to the writes that wait. -/
theorem RefOf.pushed {w wm w' : World} {B g N N' : Nat} {d : Dk} {s : RSpot} (h : RefOf w B g d N s) (hb : Below w.heap.size w wm) (hg : wm.grownBy w' s.wv.ownBlock) {k : Nat} {v u : Value} {r : List Int}
    (own : w'.ownsRow B 88 2 v (d.wait.length + 1) (waitC d.wait s.vs ++ [.int .i64 (k : Int), u])) (hat : v.ownBlock = s.wv.ownBlock ∨ v.ownBlock = some wm.heap.size) (hr : RowAt wm B u r) (hN : N + 1 ≤ N') :
    w'.heap[g]? = some (.cells (refC d s.sv s.wv) 83) ∧ RefOf (w'.setCell ⟨g, 2, none⟩ v) B g (d.queue k r) N' { s with wv := v, vs := s.vs ++ [u] } ∧ Turns TR B w (w'.setCell ⟨g, 2, none⟩ v) := by
  have hm := h.turns (T := fun _ => False) (B' := 0) (Turns.of_below (Nat.zero_le _) hb) (fun _ h => h) (fun _ h => h) (fun _ h => h)
  have offS := row_off hm hm.safeR
  have offW := row_off hm hm.waitR
  have hbox : w'.heap[g]? = some (.cells (refC d s.sv s.wv) 83) := (hg.block g hm.lt (fun e => offW g e.symm rfl)).trans hm.box
  have hBw : B ≤ w.heap.size := Nat.le_trans h.gB (Nat.le_of_lt h.lt)
  have ht1 : Turns TR B w w' := (Turns.of_below hBw hb).grown hg (fun x e => by
    obtain ⟨cur, e1, e2, -⟩ := rowS_obj hm.waitR x e
    exact ⟨e2, _, e1, TR_sector _ _⟩) (Nat.le_trans hBw hb.size)
  have ht2 : Turns TR B wm w' := (Turns.refl TR B wm).grown hg (fun x e => by
    obtain ⟨cur, e1, e2, -⟩ := rowS_obj hm.waitR x e
    exact ⟨e2, _, e1, TR_sector _ _⟩) (Nat.le_trans hBw hb.size)
  have ht : Turns TR B w (w'.setCell ⟨g, 2, none⟩ v) := ht1.setCell (p := ⟨g, 2, none⟩) hbox (TR_disk _ _) h.gB _
  have htm : Turns TR B wm (w'.setCell ⟨g, 2, none⟩ v) := ht2.setCell (p := ⟨g, 2, none⟩) hbox (TR_disk _ _) h.gB _
  have offV : ∀ b, v.ownBlock = some b → b ≠ g := by
    rcases hat with e | e
    · intro b hb; rw [e] at hb; exact offW b hb
    · intro b hb
      rw [e] at hb
      injection hb with hb
      have := hm.lt
      omega
  refine ⟨hbox, ?_, ht⟩
  exact {
    box := set_heap (i := 2) hbox _
    gB := h.gB
    safeR := row_keepS hm.safeR fun b hb => (set_off _ _ (offS b hb)).trans (hg.block b (rowS_obj hm.safeR b hb).choose_spec.2.2 (fun e => h.ne b hb e.symm))
    waitR := by
      show World.ownsRow _ B 88 2 v (d.wait ++ [(k, r)]).length (waitC (d.wait ++ [(k, r)]) (s.vs ++ [u]))
      rw [waitC_snoc _ _ h.vlen, List.length_append]
      exact row_keepS own fun b hb => set_off _ _ (offV b hb)
    ne := fun b hb hb2 => by
      rcases hat with e | e
      · exact h.ne b hb (e ▸ hb2)
      · have hb' : v.ownBlock = some b := hb2
        rw [e] at hb'
        injection hb' with hb'
        have := (rowS_obj hm.safeR b hb).choose_spec.2.2
        omega
    ulen := h.ulen
    vlen := by show (s.vs ++ [u]).length = (d.wait ++ [(k, r)]).length; rw [List.length_append, List.length_append, h.vlen]; rfl
    isS := h.isS
    keys := h.keys
    rowsS := fun i p x a b => (h.rowsS i p x a b).turns ht fun _ => TR_byte _ _
    rowsW := fun i p x h1 h2 => by
      replace h1 : (d.wait ++ [(k, r)])[i]? = some p := h1
      replace h2 : (s.vs ++ [u])[i]? = some x := h2
      by_cases c : i < d.wait.length
      · rw [List.getElem?_append_left c] at h1
        rw [List.getElem?_append_left (by rw [h.vlen]; exact c)] at h2
        exact (h.rowsW i p x h1 h2).turns ht fun _ => TR_byte _ _
      · have hi := lt_of_get h1
        rw [List.length_append, List.length_singleton] at hi
        have e : i = d.wait.length := by omega
        rw [e, List.getElem?_append_right (Nat.le_refl _), Nat.sub_self] at h1
        rw [e, ← h.vlen, List.getElem?_append_right (Nat.le_refl _), Nat.sub_self] at h2
        injection h1 with h1
        injection h2 with h2
        subst h1 h2
        exact hr.turns htm fun _ => TR_byte _ _
    num := by
      have := h.num
      show s.ls.length + (d.wait ++ [(k, r)]).length ≤ N'
      rw [List.length_append, List.length_singleton]
      omega
    many := h.many
    acts := h.acts }
end Go.Proofs.YtonjapphhbhcpaaDoor
namespace Go.Proofs.YtonjapphhbhcpaaDoor
open Go.RowKit
set_option maxRecDepth 100000

attribute [local go_sem ↓] app_sem
set_option maxHeartbeats 4000000 in
theorem rwrite_any (g : Nat) (at_ : Int) (la : Option Addr) (n c : Nat) (l : List Int) (w : World) (B N : Nat) (d : Dk) (ha : okInt at_) (hb : RefAt w B g d N) (hin : ∀ w', Turns TR B w w' → InB w' la l) (hB : isB l) (hn : l.length = n) (hN : N ≤ 549755813887) :
    Calls Tryd.prog 83 #[.pointer (some ⟨g, 0, none⟩), .int .i64 at_, .slice la n c] w fun e w' => e = .returned (.int .i64 (d.writeE at_ l)) ∧ RefAt w' B g (d.write at_ l) (N + 1) ∧ Turns TR B w w' := by
  have HA := Lib.hid (ract_any g w B N d hb)
  have HD := Lib.hid hb
  have HI := Lib.hid (And.intro hin (And.intro hB hn))
  obtain ⟨hok, s, hb⟩ := hb
  obtain ⟨q0, q1, q2, q3, q4, q5, q6⟩ := refC_get d s.sv s.wv
  have c0 := (hb.cells 0).trans q0
  have c6 := (hb.cells 6).trans q6
  have hm := hb.many
  have hmore : RefAt w B g d (N + 1) := ⟨hok, s, { hb with num := by have := hb.num; omega }⟩
  have HM := Lib.hid hmore
  unfold okInt at ha
  clear q0 q1 q2 q3 q4 q5 q6 hmore hin hB hn
  cases hdn : d.down
  · rw [hdn] at c6
    cases hbw : d.badW at_ l.length
    · obtain ⟨b1, b2, b3⟩ := Dk.badW_no hbw
      obtain ⟨k, rfl⟩ := Int.eq_ofNat_of_zero_le b1
      have hn5 : n = 512 := by rw [← HI.out.2.2]; exact b3
      subst hn5
      have HSE : Hid (d.writeE (k : Int) l = if d.goes then 5 else 0) := Lib.hid (by unfold Dk.writeE Dk.errA; rw [hdn, hbw]; rfl)
      have HKM : Hid (k < d.acted.many) := Lib.hid (by rw [Dk.acted_many]; omega)
      have hok1 := Dk.acted_ok hok
      clear hok hb
      go_enter Tryd.func83, Tryd.ntmps83
      go_wp2_with fail
      refine HA.out.mono ?_
      rintro e w1 ⟨rfl, hr1, ht1⟩
      have T1 := Lib.hid ht1
      have R1 := Lib.hid hr1
      have HI1 := Lib.hid (HI.out.1 w1 ht1)
      clear hr1 c6 c0
      obtain ⟨er, her⟩ : ∃ er, er = (if d.goes then (5 : Int) else 0) := ⟨_, rfl⟩
      have HAN := Lib.hid (fun w => ranswer_any d.goes w)
      rw [← her] at HAN HSE
      generalize hgb : d.goes = gb at HAN ⊢
      clear her hgb
      cases hds : d.does
      · have HX : Hid (d.write (k : Int) l = d.acted) := Lib.hid (by unfold Dk.write; rw [hdn, hbw, hds]; rfl)
        clear ht1
        go_wp2_with fail
        refine (HAN.out w1).mono ?_
        rintro e w2 ⟨rfl, rfl⟩
        go_wp2_with fail
        go_ret
        refine ⟨show Ending.returned (.int .i64 er) = _ by rw [HSE.out], ?_, T1.out⟩
        rw [HX.out]
        obtain ⟨o1, s1, h1⟩ := R1.out
        exact ⟨o1, s1, { h1 with num := by have := h1.num; omega }⟩
      · have HX : Hid (d.write (k : Int) l = d.acted.put k l) := Lib.hid (by unfold Dk.write; rw [hdn, hbw, hds]; rfl)
        obtain ⟨-, s1, hb1⟩ := R1.out
        generalize d.acted = d1 at HX hb1 hok1 HKM R1 ⊢
        clear R1
        have c2 := (hb1.cells 2).trans (refC_get d1 s1.sv s1.wv).2.2.1
        have hgl := hb1.lt
        have hBw := Nat.le_trans hb1.gB (Nat.le_of_lt hgl)
        have h0l : la = none → l = [] := fun e => by
          cases hl0 : l with
          | nil => rfl
          | cons x xs =>
            obtain ⟨b, o, e2, -⟩ := HI1.out 0 x (by rw [hl0]; rfl)
            rw [e] at e2
            cases e2
        have hW := below1 w1 (.cells #[] 5)
        obtain ⟨v6, w6, hrun6, hg6⟩ := run_apR (w1.alloc (.cells #[] 5)).drew 24 w1.heap.size (.slice (some ⟨w1.heap.size, 0, none⟩) 0 0) [] (OwnB.lit w1 [] (by simp)) la 512 c l HI.out.2.2 (HI1.out.then_ hW.drew) (fun e => by have := h0l e; rw [this] at b3; simp at b3) (by simp) hW.size
        rw [app_sem] at hrun6
        rw [List.nil_append] at hg6
        have hb6 := hg6.below (OwnB.lit w1 [] (by simp)) hW.drew (Nat.le_refl _) hW.size
        obtain ⟨g6, cc6, rfl, -⟩ := hg6.own.form (by rw [b3]; omega)
        rw [b3] at hrun6 hg6
        have HO6 := Lib.hid (show RowAt w6 B (.slice (some ⟨g6, 0, none⟩) 512 cc6) l from ⟨hg6.own.base hBw, by rw [b3]; omega, fun _ _ e => by cases e⟩)
        have hb7 : Below w1.heap.size w1 (w6.alloc (.cells #[.int .i64 (k : Int), .slice (some ⟨g6, 0, none⟩) 512 cc6] 88)) := hb6.alloc hb6.size _
        obtain ⟨i0, hi0, hz0, hz1, hz2⟩ := info_parts info_sector
        have HNW : d1.wait.length + 1 ≤ 1099511627777 := by have := hb1.num; omega
        have hm7 := hb1.turns (T := fun _ => False) (B' := 0) (Turns.of_below (Nat.zero_le _) hb7) (fun _ h => h) (fun _ h => h) (fun _ h => h)
        obtain ⟨v8, w8, hrun8, own8, grow8, -, hat8⟩ := run_append_own_at (P := Tryd.prog) (w6.alloc (.cells #[.int .i64 (k : Int), .slice (some ⟨g6, 0, none⟩) 512 cc6] 88)) B 81 81 88 i0 _ 2 32 Tryd.underlying81 hi0 hz0 hz1 hz2 rfl (by decide) s1.wv d1.wait.length (waitC d1.wait s1.vs) hm7.waitR ⟨w6.heap.size, 0, none⟩ 1 1 [.int .i64 (k : Int), .slice (some ⟨g6, 0, none⟩) 512 cc6] rfl (fun j u hu => news_at w6 _ _ _ rfl j u hu) (by intro u hu; simp at hu; rcases hu with rfl | rfl <;> rfl) (by unfold maxLen; omega) (by omega) (Nat.le_trans hBw hb7.size)
        rw [app_sem] at hrun8
        have hp := hb1.pushed hb7 grow8 own8 hat8 (HO6.out.then_ (below1 w6 _)) (N' := N + 1) (Nat.le_refl _)
        obtain ⟨v8a, v8c, rfl⟩ := rowS_form own8
        have k2a : (w1.alloc (.cells #[] 5)).cell? ⟨g, 2, none⟩ = some s1.wv := (hW.cell (p := ⟨g, 2, none⟩) hgl).trans c2
        have k2b : w6.cell? ⟨g, 2, none⟩ = some s1.wv := (hb6.cell (p := ⟨g, 2, none⟩) hgl).trans c2
        have k2c : (w6.alloc (.cells #[.int .i64 (k : Int), .slice (some ⟨g6, 0, none⟩) 512 cc6] 88)).cell? ⟨g, 2, none⟩ = some s1.wv := (hb7.cell (p := ⟨g, 2, none⟩) hgl).trans c2
        have k2d : w8.cell? ⟨g, 2, none⟩ = some s1.wv := row_cells hp.1 2
        have f2d : w8.frozen? ⟨g, 2, none⟩ = false := by simp [World.frozen?, hp.1]
        have HP := Lib.hid hp
        clear hp hb1 hm7 own8 grow8 hat8 hg6 hb6 hb7 hW
        go_wp2_with fail
        go_region
        have hz := HP.out.2.1.turn (d' := d1.put k l) (fun _ _ _ => rfl) HP.out.2.1.box rfl rfl rfl HP.out.2.1.acts
        have HZ := Lib.hid (show RefAt _ B g (d1.put k l) (N + 1) ∧ Turns TR B w _ from ⟨⟨Dk.put_ok hok1 HKM.out b3, _, hz⟩, T1.out.trans HP.out.2.2⟩)
        clear hz
        go_wp2_with fail
        refine (HAN.out _).mono ?_
        rintro e w2 ⟨rfl, rfl⟩
        go_wp2_with fail
        go_ret
        refine ⟨show Ending.returned (.int .i64 er) = _ by rw [HSE.out], ?_, HZ.out.2⟩
        rw [HX.out]
        exact HZ.out.1
    · have HE : Hid (d.writeE at_ l = 1 ∧ d.write at_ l = d) := Lib.hid ⟨by unfold Dk.writeE; rw [hdn, hbw]; rfl, by unfold Dk.write; rw [hdn, hbw]; rfl⟩
      have hx : at_ < 0 ∨ (0 ≤ at_ ∧ (d.many : Int) ≤ at_) ∨ (0 ≤ at_ ∧ at_ < d.many ∧ n ≠ 512) := by
        unfold Dk.badW at hbw
        rw [HI.out.2.2] at hbw
        simp at hbw
        omega
      clear hbw hok hb hdn
      rcases hx with hx | ⟨hx0, hx⟩ | ⟨hx0, hx1, hx⟩
      · go_enter Tryd.func83, Tryd.ntmps83
        go_wp2_with fail
        go_ret
        refine ⟨show Ending.returned (.int .i64 1) = _ by rw [HE.out.1], ?_, Turns.refl _ _ _⟩
        rw [HE.out.2]
        exact HM.out
      · go_enter Tryd.func83, Tryd.ntmps83
        go_wp2_with fail
        go_ret
        refine ⟨show Ending.returned (.int .i64 1) = _ by rw [HE.out.1], ?_, Turns.refl _ _ _⟩
        rw [HE.out.2]
        exact HM.out
      · have hz2 : ((n : Int) != 512) = true := by simp; omega
        go_enter Tryd.func83, Tryd.ntmps83
        go_wp2_with fail
        go_ret
        refine ⟨show Ending.returned (.int .i64 1) = _ by rw [HE.out.1], ?_, Turns.refl _ _ _⟩
        rw [HE.out.2]
        exact HM.out
  · rw [hdn] at c6
    have HE : Hid (d.writeE at_ l = 5 ∧ d.write at_ l = d) := Lib.hid ⟨by unfold Dk.writeE; rw [hdn]; rfl, by unfold Dk.write; rw [hdn]; rfl⟩
    clear hok hb hdn
    go_enter Tryd.func83, Tryd.ntmps83
    go_wp2_with fail
    go_ret
    refine ⟨show Ending.returned (.int .i64 5) = _ by rw [HE.out.1], ?_, Turns.refl _ _ _⟩
    rw [HE.out.2]
    exact HM.out
end Go.Proofs.YtonjapphhbhcpaaDoor
namespace Go.Proofs.YtonjapphhbhcpaaDoor
open Go.RowKit
set_option maxRecDepth 100000

theorem RefAt.more {w : World} {B g N N' : Nat} {d : Dk} (h : RefAt w B g d N) (hN : N ≤ N') : RefAt w B g d N' := by
  obtain ⟨o, s, h⟩ := h
  exact ⟨o, s, { h with num := Nat.le_trans h.num hN }⟩
theorem RefAt.lt {w : World} {B g N : Nat} {d : Dk} (h : RefAt w B g d N) : B ≤ g ∧ g < w.heap.size := by
  obtain ⟨o, s, h⟩ := h
  exact ⟨h.gB, h.lt⟩
theorem rpages_any (g : Nat) (w : World) (B N : Nat) (d : Dk) (hb : RefAt w B g d N) : Calls Tryd.prog 64 #[.pointer (some ⟨g, 0, none⟩)] w fun e w' => e = .returned (.int .i64 d.pages) ∧ w = w' := by
  obtain ⟨-, s, hb⟩ := hb
  have c0 := (hb.cells 0).trans (refC_get d s.sv s.wv).1
  have hm := hb.many
  unfold Dk.pages
  clear hb
  go_enter Tryd.func64, Tryd.ntmps64
  go_wp2_with fail
  go_ret
  exact ⟨rfl, rfl⟩
set_option maxHeartbeats 4000000 in
theorem rpw_any (g : Nat) (number kind : Int) (la : Option Addr) (n c : Nat) (l : List Int) (w : World) (B N : Nat) (d : Dk) (h1 : okInt number) (h2 : okInt kind)
    (hb : RefAt w B g d N) (hin : InB w la l) (hB : isB l) (hn : l.length = n) (hnil : la = none → c = 0 ∧ l = []) (hN : N + 8 ≤ 549755813888) :
    Calls Tryd.prog 65 #[.pointer (some ⟨g, 0, none⟩), .int .i64 number, .int .i64 kind, .slice la n c] w fun e w' => e = .returned (.int .i64 (d.pwr number kind l).1) ∧ RefAt w' B g (d.pwr number kind l).2 (N + 8) ∧ Turns TR B w w' := by
  have HM := Lib.hid (refMake_any number kind la n c l w h1 h2 hin hB hn hnil)
  rw [← hn] at HM
  have HA := Lib.hid hb
  have hBw : B ≤ w.heap.size := Nat.le_of_lt (Nat.lt_of_le_of_lt hb.lt.1 hb.lt.2)
  have hmany : d.many ≤ 9223372036854775807 := by obtain ⟨-, s, h⟩ := hb; exact h.many
  unfold okInt at h1 h2
  have HO := Lib.hid (fun (h : makeE number kind l.length = 0) => okG_yes (okG_of h))
  have HL := Lib.hid hB
  rw [← hn]
  clear hb hin hB hnil hn
  go_enter Tryd.func65, Tryd.ntmps65
  go_wp2_with fail
  refine HM.out.mono ?_
  rintro e w1 ⟨v, rfl, ho, hb1⟩
  have B1 := Lib.hid hb1
  have HA1 := Lib.hid (HA.out.then_ hb1)
  by_cases e0 : makeE number kind l.length = 0
  · obtain ⟨a1, a2, a3, a4, a5⟩ := HO.out e0
    have hpl : makeL number kind l = pageL number kind l := by unfold makeL; rw [if_pos (okG_of e0)]
    rw [hpl] at ho
    have hlen : (pageL number kind l).length = 4096 := pageL_len a5
    obtain ⟨gb, cb, rfl, hcb⟩ := ho.form (by omega)
    have HX : Hid (d.pwr number kind l = if number < d.pages then wrs number (pageL number kind l) 8 0 d else (1, d)) := Lib.hid (by unfold Dk.pwr; rw [if_pos e0])
    rw [e0]
    have HPB := Lib.hid (pageL_byte (number := number) (kind := kind) HL.out)
    rw [hlen] at hcb
    generalize pageL number kind l = bs at ho hlen HX HPB ⊢
    rw [hlen]
    have HB := Lib.hid (And.intro ho hlen)
    have HPG := Lib.hid (rpages_any g w1 B N d HA1.out)
    have hpg : d.pages = (d.many : Int) / 8 := rfl
    clear ho hlen hb1 HM HA HO hpl e0
    go_wp2_with fail
    refine HPG.out.mono ?_
    rintro e w' ⟨rfl, rfl⟩
    by_cases hp : number < d.pages
    · have HX2 := Lib.hid (HX.out.trans (if_pos hp))
      have hn60 : number ≤ 1152921504606846975 := by omega
      go_wp2_with fail
      go_loopw [11, 12] (fun i _ wr => ∃ (k : Nat) (dk : Dk), k ≤ 8 ∧ i = .int .i64 (k : Int) ∧ Hid (wrs number bs 8 0 d = wrs number bs (8 - k) k dk ∧ RefAt wr B g dk (N + k) ∧ Turns TR B w1 wr)) (fun i _ _ => 8 - (intOf i).toNat)
      case atStart => exact ⟨0, d, by omega, rfl, rfl, HA1.out, Turns.refl _ _ _⟩
      case round =>
        obtain ⟨k, dk, hk, rfl, HK⟩ := hrel
        replace HK := Lib.hid HK
        by_cases hlt : k < 8
        · have hcom : (8 : Int) * number + k = number * 8 + k := by omega
          have hin : ∀ w', Turns TR B wr w' → InB w' (some ⟨gb, 512 * k, none⟩) (rowK bs k) := fun w' ht => by
            have hl1 : 1 ≤ bs.length := by rw [HB.out.2]; omega
            have h := (InB.from ((HB.out.1.turns hl1 HK.out.2.2 (fun cur => TR_byte cur (0, 0))).turns hl1 ht (fun cur => TR_byte cur (0, 0))).inB (512 * k)).take_ 512
            rw [Nat.zero_add] at h
            exact h
          have HWR := Lib.hid (rwrite_any g ((8 : Int) * number + k) (some ⟨gb, 512 * k, none⟩) 512 (cb - 512 * k) (rowK bs k) wr B (N + k) dk (by unfold okInt; omega) HK.out.2.1 hin ((HPB.out.drop _).take' _) (rowK_len HB.out.2 hlt) (by omega))
          rw [hcom] at HWR
          clear hin
          obtain ⟨er, her⟩ : ∃ er, er = dk.writeE (number * 8 + k) (rowK bs k) := ⟨_, rfl⟩
          obtain ⟨d2, hd2⟩ : ∃ d2, d2 = dk.write (number * 8 + k) (rowK bs k) := ⟨_, rfl⟩
          rw [← her, ← hd2] at HWR
          have HER := Lib.hid (And.intro her hd2)
          clear her hd2
          go_wp2_with fail
          refine HWR.out.mono ?_
          rintro e w2 ⟨rfl, hbx, htu⟩
          have HK2 := Lib.hid (show RefAt w2 B g d2 (N + (k + 1)) ∧ Turns TR B w1 w2 from ⟨hbx, HK.out.2.2.trans htu⟩)
          clear hbx htu HWR
          have h87 : 8 - k = (8 - (k + 1)) + 1 := by omega
          by_cases he : er = 0
          · subst he
            have HG := Lib.hid (HK.out.1.trans (by rw [h87, wrs_good HER.out.1.symm, ← HER.out.2]))
            clear h87
            go_wp2_with fail
            go_roundw
            case rel => exact ⟨k + 1, d2, by omega, by go_num, HG.out, HK2.out.1, HK2.out.2⟩
            case measure => simp [intOf]; omega
          · have q1 : (er != 0) = true := by simp [he]
            have HG := Lib.hid (HX2.out.trans (HK.out.1.trans (by rw [h87, wrs_bad (by rw [← HER.out.1]; exact he), ← HER.out.1, ← HER.out.2] : wrs number bs (8 - k) k dk = (er, d2))))
            clear h87
            go_wp2_with fail
            go_ret
            refine ⟨by rw [HG.out]; rfl, by rw [HG.out]; exact HK2.out.1.more (by omega), (Turns.of_below hBw B1.out).trans HK2.out.2⟩
        · have hk8 : k = 8 := by omega
          subst hk8
          have HF : Hid (d.pwr number kind l = (0, dk)) := Lib.hid (HX2.out.trans HK.out.1)
          go_wp2_with fail
          go_ret
          refine ⟨by rw [HF.out]; rfl, by rw [HF.out]; exact HK.out.2.1, (Turns.of_below hBw B1.out).trans HK.out.2.2⟩
    · have HX2 := Lib.hid (HX.out.trans (if_neg hp))
      have hp2 : d.pages ≤ number := by omega
      go_wp2_with fail
      go_ret
      refine ⟨by rw [HX2.out]; rfl, ?_, Turns.of_below hBw B1.out⟩
      rw [HX2.out]
      exact HA1.out.more (by omega)
  · have HX : Hid (d.pwr number kind l = (makeE number kind l.length, d)) := Lib.hid (by unfold Dk.pwr; rw [if_neg e0])
    have q0 : (makeE number kind l.length != 0) = true := by simp [e0]
    generalize makeE number kind l.length = en at *
    clear ho hb1
    go_wp2_with fail
    go_ret
    refine ⟨by rw [HX.out]; rfl, ?_, Turns.of_below hBw B1.out⟩
    rw [HX.out]
    exact HA1.out.more (by omega)
end Go.Proofs.YtonjapphhbhcpaaDoor
namespace Go.Proofs.YtonjapphhbhcpaaDoor
open Go.RowKit
set_option maxRecDepth 100000

/-- What a page's reading tells, the error as a number. -/
def RPrTo (d : Dk) (number : Int) (w : World) (e : Ending) (w' : World) : Prop := ∃ v, e = .returned (.tuple #[.int .i64 (d.prK number), v, .int .i64 (d.prE number)]) ∧ OwnB w' w.heap.size v (d.prL number) ∧ Below w.heap.size w w'
theorem RPrTo.bad {d : Dk} {number : Int} {w w' : World} {n : Int} (h : d.prE number = n) (hn : n ≠ 0) (hb : Below w.heap.size w w') : RPrTo d number w (.returned (.tuple #[.int .i64 0, .slice none 0 0, .int .i64 n])) w' := by
  have h0 : d.prE number ≠ 0 := by rw [h]; exact hn
  exact ⟨_, by unfold Dk.prK; rw [if_neg h0, h], by unfold Dk.prL; rw [if_neg h0]; exact OwnB.nil _ _, hb⟩
end Go.Proofs.YtonjapphhbhcpaaDoor
