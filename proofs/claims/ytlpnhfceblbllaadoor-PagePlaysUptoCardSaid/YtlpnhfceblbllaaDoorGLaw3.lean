/- The law PageKeeps over the contracts. No statement is proved here. -/
import Derived.Test.YtlpnhfceblbllaaDoorGOps
import Derived.Test.YtlpnhfceblbllaaDoorGKp
import Derived.Test.YtlpnhfceblbllaaDoorJ10
namespace Go.Proofs.YtlpnhfceblbllaaDoor
open Go.RowKit
set_option maxRecDepth 100000

/-- Where the law stands: the disk, what was written last. -/
structure KSt (W w : World) (B h g gl gk N : Nat) (d : Dk) (ks : Nat → Int) (ls : Nat → List Int) (vs : Nat → Value) : Prop where
  box : BoxAt w B g d N
  hand : w.heap[h]? = some (.cells #[.pointer (some ⟨g, 0, none⟩)] 74)
  last : w.heap[gl]? = some (.cells (cells5 vs) 52)
  kind : w.heap[gk]? = some (.cells (cells5 fun k => .int .i64 (ks k)) 53)
  rows : ∀ k, k < 5 → OwnB w B (vs k) (ls k)
  short : ∀ k, k < 5 → (ls k).length ≤ 4085
  below : Below W.heap.size W w
theorem OwnB.blockT {w : World} {B : Nat} {v : Value} {r : List Int} (h : OwnB w B v r) : ∀ g, v.ownBlock = some g → ∃ cur, w.heap[g]? = some (.cells cur 5) := by
  obtain ⟨h1, h2⟩ := h
  rcases h2 with ⟨hv, -⟩ | ⟨g, cap, cur, hv, hb, hg, hrest⟩
  · intro g hg
    rw [hv] at hg
    cases hg
  · intro g' hg'
    rw [hv] at hg'
    injection hg' with hg'
    subst hg'
    exact ⟨cur, hg⟩
theorem OwnB.turned {T : Obj → Prop} {w w' : World} {B B' : Nat} {v : Value} {r : List Int} (h : OwnB w B v r) (ht : Turns T B' w w') (hn : ∀ cur, ¬ T (.cells cur 5)) : OwnB w' B v r := h.keep fun b hb => by
  obtain ⟨cur, h1⟩ := h.blockT b hb
  exact (ht.block b _ h1 (hn cur)).trans h1.symm
theorem hand_TB {cur : Array Value} {fr : Nat × Nat} : ¬ TB (.cells cur 74 fr) := by
  show ¬ ((74 : Nat) = 72 ∨ (74 : Nat) = 95)
  decide
theorem last_TB {cur : Array Value} {fr : Nat × Nat} : ¬ TB (.cells cur 52 fr) := by
  show ¬ ((52 : Nat) = 72 ∨ (52 : Nat) = 95)
  decide
theorem kind_TB {cur : Array Value} {fr : Nat × Nat} : ¬ TB (.cells cur 53 fr) := by
  show ¬ ((53 : Nat) = 72 ∨ (53 : Nat) = 95)
  decide
section
variable {W w w' : World} {B h g gl gk N : Nat} {d : Dk} {ks : Nat → Int} {ls : Nat → List Int} {vs : Nat → Value}
theorem KSt.then_ (s : KSt W w B h g gl gk N d ks ls vs) (hb : Below w.heap.size w w') : KSt W w' B h g gl gk N d ks ls vs :=
  { box := s.box.then_ hb
    hand := (hb.block _ (lt_of_block s.hand)).trans s.hand
    last := (hb.block _ (lt_of_block s.last)).trans s.last
    kind := (hb.block _ (lt_of_block s.kind)).trans s.kind
    rows := fun k hk => (s.rows k hk).then_ hb
    short := s.short
    below := s.below.trans (hb.mono s.below.size) }
/-- The disk has turned. -/
theorem KSt.turn (s : KSt W w B h g gl gk N d ks ls vs) {d' : Dk} {N' : Nat} (hW : W.heap.size ≤ B) (hb : BoxAt w' B g d' N') (ht : Turns TB B w w') : KSt W w' B h g gl gk N' d' ks ls vs :=
  { box := hb
    hand := ht.block _ _ s.hand hand_TB
    last := ht.block _ _ s.last last_TB
    kind := ht.block _ _ s.kind kind_TB
    rows := fun k hk => (s.rows k hk).turned ht fun cur => TB_byte cur (0, 0)
    short := s.short
    below := s.below.trans (ht.below.mono hW) }
/-- Of what was there only arrays of five have turned. -/
def T5 : Obj → Prop
  | .cells _ t _ => t = 52 ∨ t = 53
  | _ => False
theorem T5_no {t : TypeId} (h1 : t ≠ 52) (h2 : t ≠ 53) (cur : Array Value) : ¬ T5 (.cells cur t) := by
  show ¬ (t = 52 ∨ t = 53)
  rintro (h | h)
  · exact h1 h
  · exact h2 h
theorem KSt.note (s : KSt W w B h g gl gk N d ks ls vs) {m : Nat} (hm : m < 5) (hW : W.heap.size ≤ B) (hl : B ≤ gl) (hk : B ≤ gk) (hne : gl ≠ gk) {v : Value} {l : List Int} (hv : OwnB w B v l) (hs : l.length ≤ 4085) (x : Int) :
    KSt W ((w.setCell ⟨gl, m, none⟩ v).setCell ⟨gk, m, none⟩ (.int .i64 x)) B h g gl gk N d (updF ks m x) (updF ls m l) (updF vs m v) := by
  have t1 : Turns T5 B w (w.setCell ⟨gl, m, none⟩ v) := (Turns.refl T5 B w).setCell s.last (show T5 (.cells _ _) from Or.inl rfl) hl v
  have hk1 : (w.setCell ⟨gl, m, none⟩ v).heap[gk]? = some (.cells (cells5 fun k => .int .i64 (ks k)) 53) := (set_others w ⟨gl, m, none⟩ v gk hne.symm).trans s.kind
  have t2 : Turns T5 B w ((w.setCell ⟨gl, m, none⟩ v).setCell ⟨gk, m, none⟩ (.int .i64 x)) := t1.setCell hk1 (show T5 (.cells _ _) from Or.inr rfl) hk _
  have hl1 := cells5_set s.last hm v
  have hk2 := cells5_set hk1 hm (.int .i64 x)
  refine { box := s.box.turnsG t2 (T5_no (by decide) (by decide)) (T5_no (by decide) (by decide)) (T5_no (by decide) (by decide)) (fun _ _ h => h), hand := t2.block _ _ s.hand (T5_no (by decide) (by decide) _), last := ?_, kind := ?_, rows := fun k hk5 => ?_, short := fun k hk5 => ?_, below := s.below.trans (t2.below.mono hW) }
  · refine (set_others _ ⟨gk, m, none⟩ _ gl hne).trans (hl1.trans ?_)
    rfl
  · refine hk2.trans ?_
    congr 2
    congr 1
    funext k
    unfold updF
    split <;> rfl
  · by_cases e : k = m
    · subst e
      rw [updF_same, updF_same]
      exact hv.turned t2 (T5_no (by decide) (by decide))
    · rw [updF_other _ _ e, updF_other _ _ e]
      exact (s.rows k hk5).turned t2 (T5_no (by decide) (by decide))
  · by_cases e : k = m
    · subst e
      rw [updF_same]
      exact hs
    · rw [updF_other _ _ e]
      exact s.short k hk5
end
set_option maxHeartbeats 8000000 in
theorem keeps_law {W : World} (P : P12 W) (oa : Option Addr) (on oc : Nat) (os : List OpD) (ka : Option Addr) (kn kc : Nat) (kb : List Bool) (hin : InO W oa os) (hall : ∀ o ∈ os, o.In W) (hn : os.length = on) (hsm : on ≤ 1048576)
    (hk : InK W W.heap.size ka kb) (hkn : kb.length = kn) (hkc : kn ≤ kc ∧ kc ≤ 140737488351232) :
    Calls Tryd.prog 7 #[.slice oa on oc, .slice ka kn kc] W fun e w' => e = .returned (.bool true) ∧ Below W.heap.size W w' := by
  have HP := Lib.hid P
  have HI := Lib.hid (And.intro hin (And.intro hall hn))
  have HK := Lib.hid (And.intro hk hkn)
  obtain ⟨hkc1, hkc2⟩ := hkc
  clear P hin hall hn hk hkn
  go_enter Tryd.func7, Tryd.ntmps7
  go_wp2_with fail
  refine (awake12_any HP.out W (Below.refl _ _)).mono ?_
  rintro e w1 ⟨rfl, b1⟩
  have B1 := Lib.hid b1
  clear b1
  go_wp2_with fail
  refine (new_any 40 (by omega) w1).mono ?_
  rintro e w2 ⟨h, g, rfl, hh, hgt, hbox, b2⟩
  have B2 := Lib.hid (And.intro B1.out.size b2)
  have HX := Lib.hid (And.intro hh (And.intro hgt hbox))
  clear b2 hh hgt hbox
  go_wp2_with fail
  obtain ⟨gl, hgl⟩ : ∃ gl, gl = w2.heap.size := ⟨_, rfl⟩
  obtain ⟨gk, hgk⟩ : ∃ gk, gk = w2.heap.size + 1 := ⟨_, rfl⟩
  have HS0 : Hid (KSt W ((w2.alloc (.cells #[.slice none 0 0, .slice none 0 0, .slice none 0 0, .slice none 0 0, .slice none 0 0] 52)).alloc (.cells #[.int .i64 0, .int .i64 0, .int .i64 0, .int .i64 0, .int .i64 0] 53)) w1.heap.size h g gl gk (8 * 0) (Dk.new 40) (fun _ => 0) (fun _ => []) (fun _ => .slice none 0 0)) := Lib.hid (by
    have hb := below2 w2 (.cells #[.slice none 0 0, .slice none 0 0, .slice none 0 0, .slice none 0 0, .slice none 0 0] 52) (.cells #[.int .i64 0, .int .i64 0, .int .i64 0, .int .i64 0, .int .i64 0] 53)
    exact { box := HX.out.2.2.then_ hb
            hand := (hb.block _ (lt_of_block HX.out.1)).trans HX.out.1
            last := by rw [hgl]; exact ((below1 (w2.alloc _) _).block _ (by simp)).trans (heap_alloc_new w2 _)
            kind := by rw [hgk]; exact heap_alloc_at _ _ _ (by simp)
            rows := fun k _ => OwnB.nil _ _
            short := fun k _ => Nat.zero_le _
            below := (B1.out.trans (B2.out.2.mono B1.out.size)).trans (hb.mono (Nat.le_trans B1.out.size B2.out.2.size)) })
  have hne : gl ≠ gk := by omega
  have hlB : w1.heap.size ≤ gl := by rw [hgl]; exact B2.out.2.size
  have hkB : w1.heap.size ≤ gk := by omega
  rw [← hgl, ← hgk] at *
  clear hgl hgk
  have hWB := B1.out.size
  generalize (w2.alloc (.cells #[.slice none 0 0, .slice none 0 0, .slice none 0 0, .slice none 0 0, .slice none 0 0] 52)).alloc (.cells #[.int .i64 0, .int .i64 0, .int .i64 0, .int .i64 0, .int .i64 0] 53) = w3 at HS0 ⊢
  clear B2 HX
  generalize w1.heap.size = B at *
  go_loopw [9, 10, 11] (fun i _ _ wr => ∃ j : Nat, j ≤ on ∧ i = .int .i64 (j : Int) ∧ Hid (∃ d ks ls vs, KG d ks ls ∧ KSt W wr B h g gl gk (8 * j) d ks ls vs)) (fun i _ _ _ => on - (intOf i).toNat)
  case atStart => exact ⟨0, Nat.zero_le _, rfl, Lib.hid ⟨_, _, _, _, KG.new _, HS0.out⟩⟩
  case round =>
    obtain ⟨j, hj, rfl, HK1⟩ := hrel
    obtain ⟨d, ks, ls, vs, hkg, hst⟩ := HK1.out
    have HG := Lib.hid hkg
    have HS := Lib.hid hst
    clear HK1
    by_cases hlt : j < on
    · obtain ⟨o, ho⟩ : ∃ o, os[j]? = some o := ⟨_, List.getElem?_eq_getElem (by rw [HI.out.2.2]; exact hlt)⟩
      obtain ⟨bo, oo, rfl, hc⟩ := HI.out.1 j o ho
      have HO := Lib.hid (HI.out.2.1 o (List.mem_of_getElem? ho))
      have c1 : wr.cell? ⟨bo, oo + j * 6 + 1, none⟩ = some (.int .i64 o.n) := (hst.below.cell (p := ⟨bo, oo + j * 6 + 1, none⟩) (cell_lt (hc 1 _ rfl))).trans (hc 1 _ rfl)
      have c2 : wr.cell? ⟨bo, oo + j * 6 + 2, none⟩ = some (.int .i64 o.kind) := (hst.below.cell (p := ⟨bo, oo + j * 6 + 2, none⟩) (cell_lt (hc 2 _ rfl))).trans (hc 2 _ rfl)
      have c3 : wr.cell? ⟨bo, oo + j * 6 + 3, none⟩ = some (.slice o.ba o.bl.length o.bc) := (hst.below.cell (p := ⟨bo, oo + j * 6 + 3, none⟩) (cell_lt (hc 3 _ rfl))).trans (hc 3 _ rfl)
      have HC := Lib.hid hc
      have hbo : bo < W.heap.size := cell_lt (hc 1 _ rfl)
      obtain ⟨m, hm⟩ : ∃ m : Nat, (m : Int) = o.n % 8 := ⟨(o.n % 8).toNat, by omega⟩
      have hm8 : m < 8 := by omega
      have hand := and7 o.n
      rw [← hm] at hand
      clear hm hc ho hst
      have hhand : wr.cell? ⟨h, 0, none⟩ = some (.pointer (some ⟨g, 0, none⟩)) := row_cells HS.out.hand 0
      obtain ⟨wd, hwd⟩ : ∃ wd, wd = wr.drew.alloc (.cells #[.pointer (some ⟨g, 0, none⟩)] 88) := ⟨_, rfl⟩
      have hbd : Below wr.heap.size wr wd := by rw [hwd]; exact ((Below.refl wr.heap.size wr).drew).alloc (Nat.le_refl _) _
      have HSD := Lib.hid (HS.out.then_ hbd)
      have HDK := Lib.hid (disk_any h g wr.drew hhand)
      rw [← hwd] at HDK
      have hdd : wd.heap[wr.heap.size]? = some (.cells #[.pointer (some ⟨g, 0, none⟩)] 88) := by rw [hwd]; exact heap_alloc_new wr.drew _
      have HWR := Lib.hid (pw_any HP.out wr.heap.size g (m : Int) o.kind o.ba o.bl.length o.bc o.bl wd B (8 * j) d HSD.out.below (by unfold okInt; omega) HO.out.kind hdd HSD.out.box (HO.out.inB.then_ HSD.out.below) HO.out.byte rfl HO.out.bLen.1 (Nat.le_trans HO.out.bLen.2 (by decide)) HO.out.nil' (by omega) (fun y e => by cases e))
      have HKW := Lib.hid (HG.out.write m o.kind HO.out.byte)
      obtain ⟨er, her⟩ : ∃ er, er = (d.pwr (m : Int) o.kind o.bl).1 := ⟨_, rfl⟩
      obtain ⟨d2, hd2⟩ : ∃ d2, d2 = (d.pwr (m : Int) o.kind o.bl).2 := ⟨_, rfl⟩
      rw [← her, ← hd2] at HWR HKW
      have k2 := hbd.cell (p := ⟨bo, oo + j * 6 + 2, none⟩) (cell_lt c2)
      have k3 := hbd.cell (p := ⟨bo, oo + j * 6 + 3, none⟩) (cell_lt c3)
      rw [c2] at k2
      rw [c3] at k3
      clear her hd2 hwd hdd hbd
      go_wp2_with fail
      go_region_held3 (fun w' => w'.cell? ⟨bo, oo + j * 6 + 2, none⟩ = some (.int .i64 o.kind) ∧ w'.cell? ⟨bo, oo + j * 6 + 3, none⟩ = some (.slice o.ba o.bl.length o.bc))
        (go_keep)
        (first
          | (go_at_call 22; refine HDK.out.mono ?_; rintro e wx ⟨rfl, rfl⟩)
          | (go_at_call 24; refine HWR.out.mono ?_; rintro e w5 ⟨rfl, hbx, htu⟩; have HW5 := Lib.hid (And.intro hbx htu); have k2 := (htu.below.cell (p := ⟨bo, oo + j * 6 + 2, none⟩) (show bo < B by omega)).trans k2; have k3 := (htu.below.cell (p := ⟨bo, oo + j * 6 + 3, none⟩) (show bo < B by omega)).trans k3; clear hbx htu))
      by_cases he : er = 0
      · subst he
        rw [errV_zero]
        obtain ⟨hm5, hk1, hl5, hkg2⟩ : m < 5 ∧ 1 ≤ o.kind ∧ o.bl.length ≤ 4085 ∧ KG d2 (updF ks m o.kind) (updF ls m o.bl) := by
          rcases HKW.out with ⟨h0, -⟩ | ⟨-, h1⟩
          · exact absurd rfl h0
          · exact h1
        have HS5 := Lib.hid (HSD.out.turn hWB HW5.out.1 HW5.out.2)
        have HG2 := Lib.hid hkg2
        have hrem : (m : Int).tmod 5 = (m : Int) := Int.tmod_eq_of_lt (by omega) (by omega)
        have k3a := (below1 w5 (.cells #[] 5)).cell (p := ⟨bo, oo + j * 6 + 3, none⟩) (cell_lt k3)
        rw [k3] at k3a
        have HOL := Lib.hid (OwnB.lit w5 [] (by simp))
        have HIB := Lib.hid ((HO.out.inB.then_ HS5.out.below).then_ (below1 w5 (.cells #[] 5)))
        clear hkg2 HKW HWR HDK HSD HS HG
        go_wp2_with (first
          | (at_builtin; show wpList _ _ _ (⟨some 56, _, _, _, _, _⟩ :: _) _ _; refine apR rfl (.tmp 50) (.tmp 55) rfl w5.heap.size _ _ rfl HOL.out o.ba o.bl.length o.bc o.bl rfl rfl HIB.out HO.out.nil' (by simp; omega) (below1 w5 _).size ?_; intro v6 w6 hg6
             rw [List.nil_append] at hg6
             obtain ⟨a6, c6, rfl, -⟩ := hg6.own.shape
             have hb6 := hg6.below HOL.out (below1 w5 (.cells #[] 5)) (Nat.le_refl _) (below1 w5 _).size
             have HS6 := Lib.hid (And.intro (HS5.out.then_ hb6) hg6.own)
             have l1 := cells5_at HS6.out.1.last hm5
             have q2 := ((((Below.refl B w6).setCell (p := ⟨gl, m, none⟩) hlB (.slice a6 o.bl.length c6)).cell (p := ⟨bo, oo + j * 6 + 2, none⟩) (show bo < B by omega)).trans (hb6.cell (p := ⟨bo, oo + j * 6 + 2, none⟩) (cell_lt k2))).trans k2
             have q4 := cells5_at ((set_others w6 ⟨gl, m, none⟩ (.slice a6 o.bl.length c6) gk hne.symm).trans HS6.out.1.kind) hm5
             clear hg6 hb6))
        go_roundw
        case rel =>
          have hB5 : B ≤ w5.heap.size := Nat.le_of_lt (Nat.lt_of_le_of_lt HS5.out.box.lt.1 HS5.out.box.lt.2)
          exact ⟨j + 1, by omega, by go_num, Lib.hid ⟨d2, _, _, _, HG2.out, HS6.out.1.note hm5 hWB hlB hkB hne (HS6.out.2.base hB5) hl5 o.kind⟩⟩
        case measure => simp [intOf]; omega
      · rw [errV_mk he]
        have hkg2 : KG d2 ks ls := by
          rcases HKW.out with ⟨-, h0⟩ | ⟨h0, -⟩
          · rw [h0]; exact HG.out
          · exact absurd h0 he
        have HF : Hid (∃ d ks ls vs, KG d ks ls ∧ KSt W w5 B h g gl gk (8 * (j + 1)) d ks ls vs) := Lib.hid ⟨d2, ks, ls, vs, hkg2, HSD.out.turn hWB HW5.out.1 HW5.out.2⟩
        clear hkg2 HKW HWR HDK
        go_wp2_with fail
        go_roundw
        case rel => exact ⟨j + 1, by omega, by go_num, HF⟩
        case measure => simp [intOf]; omega
    · have hje : j = on := by omega
      subst hje
      clear hj hlt
      have HR0 : Hid (∃ d, KG d ks ls ∧ KSt W wr B h g gl gk (8 * j) d ks ls vs ∧ (1 ≤ 0 → d.wait = [])) := Lib.hid ⟨d, HG.out, HS.out, fun h => by omega⟩
      clear HS HG hst hkg
      clear d
      go_wp2_with fail
      go_loopw [12, 13, 14, 15, 16, 17] (fun i _ _ _ _ _ wt => ∃ t : Nat, t ≤ 3 ∧ i = .int .i64 (t : Int) ∧ Hid (∃ d, KG d ks ls ∧ KSt W wt B h g gl gk (8 * j) d ks ls vs ∧ (1 ≤ t → d.wait = []))) (fun i _ _ _ _ _ _ => 3 - (intOf i).toNat)
      case atStart => exact ⟨0, by omega, rfl, HR0⟩
      case round =>
        obtain ⟨t, ht, rfl, HT⟩ := hrel
        obtain ⟨d, hkg, hst, hwt⟩ := HT.out
        have HG := Lib.hid (And.intro hkg hwt)
        have HS := Lib.hid hst
        clear hkg hst hwt HT HR0
        by_cases ht3 : t < 3
        · have ht3d : decide ((t : Int) < 3) = true := by simp; omega
          go_wp2_with fail
          go_loopw [13, 14, 15, 16] (fun i _ _ _ wn => ∃ m : Nat, m ≤ 5 ∧ i = .int .i64 (m : Int) ∧ Hid (KSt W wn B h g gl gk (8 * j) d ks ls vs)) (fun i _ _ _ _ => 5 - (intOf i).toNat)
          case atStart => exact ⟨0, by omega, rfl, HS⟩
          case round =>
            obtain ⟨m, hm, rfl, HN⟩ := hrel
            replace HN := Lib.hid HN
            by_cases hm5 : m < 5
            · go_wp2_with fail
              refine (disk_any h g _ (row_cells HN.out.hand 0)).mono ?_
              rintro e wd ⟨rfl, hwd⟩
              have hsz := HN.out.box.lt
              have HSD := Lib.hid (HN.out.then_ (w' := wd) (by rw [hwd]; exact below1 _ _))
              have hdd : wd.heap[wr.heap.size]? = some (.cells #[.pointer (some ⟨g, 0, none⟩)] 88) := by rw [hwd]; exact heap_alloc_new _ _
              have HRD := Lib.hid (pr_any HP.out wr.heap.size g (m : Int) wd B (8 * j) d HSD.out.below (by unfold okInt; omega) hdd HSD.out.box HG.out.1.byte)
              clear hwd hdd HN
              go_wp2_with fail
              refine HRD.out.mono ?_
              rintro e w5 ⟨v, rfl, hov, hb5⟩
              have HS5 := Lib.hid (And.intro (HSD.out.then_ hb5) hov)
              clear HRD hb5 hov HSD
              have l1 := cells5_at HS5.out.1.kind hm5
              have l2 := cells5_at HS5.out.1.last hm5
              obtain ⟨al, cl, evl, inl, nil_, -⟩ := (HS5.out.1.rows m hm5).shape
              rw [evl] at l2
              obtain ⟨ax, cx, rfl, inx, nix, -⟩ := HS5.out.2.shape
              rcases HG.out.1.read hm5 with ⟨hk0, he0⟩ | ⟨hk1, he0, hke, hle⟩
              · rw [hk0] at l1
                have hkk : d.prK (m : Int) = 0 := by unfold Dk.prK; rw [if_neg (by rw [he0]; decide)]
                rw [he0, hkk, errV_mk (by decide)]
                clear inl nil_ inx nix
                have f1 := l1.2
                have g1 := l1.1
                go_wp2_with fail
                go_region
                have g3 : w5.drew.cell? ⟨gk, m, none⟩ = _ := l1.1
                have HSW : Hid (KSt W w5.drew B h g gl gk (8 * j) d ks ls vs) := Lib.hid (HS5.out.1.then_ (Below.refl _ w5).drew)
                generalize w5.drew = w7 at g3 HSW ⊢
                go_wp2_with fail
                go_roundw
                case rel => exact ⟨m + 1, by omega, by go_num, HSW.out⟩
                case measure => simp [intOf]; omega
              · rw [he0, hke, errV_zero]
                have s1 := run_str w5.drew ax _ cx _ rfl inx fun e => (nix e).2
                have s2 := run_str w5.drew al _ cl _ rfl inl fun e => (nil_ e).2
                rw [hle] at s1
                rw [hle]
                have hpos : decide (0 < ks m) = true := by simp; omega
                clear inl nil_ inx nix
                have g1 := l1.1
                have g2 := l2.1
                go_wp2_with fail
                go_region
                have g3 : w5.drew.cell? ⟨gk, m, none⟩ = _ := l1.1
                have HSW : Hid (KSt W w5.drew B h g gl gk (8 * j) d ks ls vs) := Lib.hid (HS5.out.1.then_ (Below.refl _ w5).drew)
                generalize w5.drew = w7 at g3 HSW ⊢
                go_wp2_with fail
                go_roundw
                case rel => exact ⟨m + 1, by omega, by go_num, HSW.out⟩
                case measure => simp [intOf]; omega
            · have hm5e : m = 5 := by omega
              subst hm5e
              clear hm hm5
              by_cases ht0 : t = 0
              · subst ht0
                go_wp2_with fail
                refine (disk_any h g _ (row_cells HN.out.hand 0)).mono ?_
                rintro e wd ⟨rfl, hwd⟩
                have HSD := Lib.hid (HN.out.then_ (w' := wd) (by rw [hwd]; exact below1 _ _))
                have hdd : wd.heap[wr.heap.size]? = some (.cells #[.pointer (some ⟨g, 0, none⟩)] 88) := by rw [hwd]; exact heap_alloc_new _ _
                have HY := Lib.hid (dsync_any wr.heap.size g wd B (8 * j) d hdd HSD.out.box (by omega))
                have hsy := HG.out.1.sync
                rw [hsy.1, errV_zero] at HY
                have HGS := Lib.hid (And.intro hsy.2.2 (show d.sync.wait = [] by rw [hsy.2.1]; rfl))
                clear hwd hdd HN hsy
                go_wp2_with fail
                refine HY.out.mono ?_
                rintro e w5 ⟨rfl, hbx, htu⟩
                have HF := Lib.hid (HSD.out.turn hWB hbx htu)
                clear hbx htu
                go_wp2_with fail
                go_roundw
                case rel => exact ⟨1, by omega, by go_num, Lib.hid ⟨d.sync, HGS.out.1, HF.out, fun _ => HGS.out.2⟩⟩
                case measure => simp [intOf]
              · have q0 : ((t : Int) == 0) = false := by simp; omega
                have HCR := Lib.hid (crash_any h g ka kn kc kb wr B (8 * j) d HN.out.hand HN.out.box (fun i x hx => by
                  obtain ⟨b, o, e, hb, hc⟩ := HK.out.1 i x hx
                  exact ⟨b, o, e, Nat.lt_of_lt_of_le hb hWB, (HN.out.below.cell (p := ⟨b, o + i, none⟩) hb).trans hc⟩) HK.out.2 (by omega) (by omega))
                have HGC := Lib.hid (HG.out.1.crash (HG.out.2 (by omega)) kb)
                go_wp2_with fail
                refine HCR.out.mono ?_
                rintro e w5 ⟨rfl, hbx, htu⟩
                have HF := Lib.hid (HN.out.turn hWB hbx htu)
                clear hbx htu
                go_wp2_with fail
                go_roundw
                case rel => exact ⟨t + 1, by omega, by go_num, Lib.hid ⟨_, HGC.out.1, HF.out, fun _ => HGC.out.2⟩⟩
                case measure => simp [intOf]; omega
        · have ht3e : t = 3 := by omega
          subst ht3e
          go_wp2_with fail
          go_ret
          exact ⟨rfl, HS.out.below⟩
end Go.Proofs.YtlpnhfceblbllaaDoor
