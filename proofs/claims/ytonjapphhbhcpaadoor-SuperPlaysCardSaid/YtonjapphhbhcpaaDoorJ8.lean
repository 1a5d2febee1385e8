/- Pages on a disk, as plain words: no program here. The program's Pages, and its Write of a page. The program's Write of a page. The program's Read of a page. No statement is proved here. -/
import Derived.Test.YtonjapphhbhcpaaDoorJ3
import Derived.Test.YtonjapphhbhcpaaDoorGOpen
import Derived.Test.YtonjapphhbhcpaaDoorJ9
import Derived.Test.YtonjapphhbhcpaaDoorGEnv
import Derived.Test.YtonjapphhbhcpaaDoorJ4
import Derived.Test.YtonjapphhbhcpaaDoorDBlk3
namespace Go.Proofs.YtonjapphhbhcpaaDoor
/-- A page's sector. -/
def rowK (b : List Int) (i : Nat) : List Int := (b.drop (512 * i)).take 512
/-- n sectors from the i-th on, written one behind another till one is refused: the error, the disk. -/
def wrs (number : Int) (b : List Int) : Nat → Nat → Dk → Int × Dk
  | 0, _, d => (0, d)
  | n + 1, i, d => if d.writeE (number * 8 + i) (rowK b i) = 0 then wrs number b n (i + 1) (d.write (number * 8 + i) (rowK b i)) else (d.writeE (number * 8 + i) (rowK b i), d.write (number * 8 + i) (rowK b i))
def Dk.pages (d : Dk) : Int := (d.many : Int) / 8
/-- A page written: the error, the disk. -/
def Dk.pwr (d : Dk) (number kind : Int) (l : List Int) : Int × Dk := if makeE number kind l.length = 0 then if number < d.pages then wrs number (pageL number kind l) 8 0 d else (1, d) else (makeE number kind l.length, d)
theorem rowK_len {b : List Int} (h : b.length = 4096) {i : Nat} (hi : i < 8) : (rowK b i).length = 512 := by
  unfold rowK
  rw [List.length_take, List.length_drop]
  omega
theorem wrs_ok (number : Int) (b : List Int) : ∀ (n i : Nat) (d : Dk), d.ok → (wrs number b n i d).2.ok
  | 0, _, _, h => h
  | n + 1, i, d, h => by
    unfold wrs
    split
    · exact wrs_ok number b n (i + 1) _ (Dk.write_ok h _ _)
    · exact Dk.write_ok h _ _
theorem wrs_good {number : Int} {b : List Int} {n i : Nat} {d : Dk} (h : d.writeE (number * 8 + i) (rowK b i) = 0) : wrs number b (n + 1) i d = wrs number b n (i + 1) (d.write (number * 8 + i) (rowK b i)) := by rw [wrs, if_pos h]
theorem wrs_bad {number : Int} {b : List Int} {n i : Nat} {d : Dk} (h : d.writeE (number * 8 + i) (rowK b i) ≠ 0) : wrs number b (n + 1) i d = (d.writeE (number * 8 + i) (rowK b i), d.write (number * 8 + i) (rowK b i)) := by rw [wrs, if_neg h]
theorem okG_of {number kind : Int} {n : Nat} (h : makeE number kind n = 0) : okG number kind n = true := by
  cases hk : okG number kind n
  · unfold makeE at h
    rw [hk] at h
    exact absurd h (by decide)
  · rfl
theorem Dk.write_many (d : Dk) (at_ : Int) (l : List Int) : (d.write at_ l).many = d.many := by
  unfold Dk.write
  split
  · rfl
  · split
    · rfl
    · split
      · exact d.acted_many
      · exact d.acted_many
/-- The bytes of a page's first sectors; of the page. -/
def preB (d : Dk) (number : Nat) : Nat → List Int
  | 0 => []
  | k + 1 => preB d number k ++ d.look (number * 8 + k)
def pgB (d : Dk) (number : Nat) : List Int := preB d number 8
theorem preB_len {d : Dk} (h : d.ok) (number : Nat) : ∀ k, (preB d number k).length = 512 * k
  | 0 => rfl
  | k + 1 => by
    show (preB d number k ++ d.look (number * 8 + k)).length = _
    rw [List.length_append, preB_len h number k, h.look_len]
    omega
theorem pgB_len {d : Dk} (h : d.ok) (number : Nat) : (pgB d number).length = 4096 := preB_len h number 8
/-- A page read: the error, the kind, the body. -/
def Dk.prE (d : Dk) (number : Int) : Int := if 0 ≤ number ∧ number < d.pages then if d.down then 5 else openE (pgB d number.toNat) number else 1
def Dk.prK (d : Dk) (number : Int) : Int := if d.prE number = 0 then openK (pgB d number.toNat) number else 0
def Dk.prL (d : Dk) (number : Int) : List Int := if d.prE number = 0 then openL (pgB d number.toNat) number else []
end Go.Proofs.YtonjapphhbhcpaaDoor
namespace Go.Proofs.YtonjapphhbhcpaaDoor
open Go.RowKit
set_option maxRecDepth 100000

theorem OwnB.turns {T : Obj → Prop} {w w' : World} {B B' : Nat} {v : Value} {r : List Int} (h : OwnB w B v r) (h1 : 1 ≤ r.length) (ht : Turns T B' w w') (hn : ∀ cur, ¬ T (.cells cur 5)) : OwnB w' B v r := (RowAt.turns (w := w) (B := ⟨B, none⟩) ⟨h, h1, fun _ _ e => by cases e⟩ ht hn).1
theorem sectorP_any (number i : Int) (w : World) (h1 : 0 ≤ number) (h2 : number ≤ 1152921504606846975) (h3 : 0 ≤ i) (h4 : i < 8) : Calls Tryd.prog 72 #[.int .i64 number, .int .i64 i] w fun e w' => e = .returned (.int .i64 (number * 8 + i)) ∧ w = w' := by
  go_enter Tryd.func72, Tryd.ntmps72
  go_wp2_with fail
  go_ret
  exact ⟨rfl, rfl⟩
theorem pages_any (h g : Nat) (w : World) (B : Base) (N : Nat) (d : Dk) (hh : w.cell? ⟨h, 0, none⟩ = some (.pointer (some ⟨g, 0, none⟩))) (hb : BoxAt w B g d N) :
    Calls Tryd.prog 48 #[.pointer (some ⟨h, 0, none⟩)] w fun e w' => e = .returned (.int .i64 d.pages) ∧ w = w' := by
  have HS := Lib.hid (sectors_any h g w B N d hh hb)
  have hm : d.many ≤ 9223372036854775807 := by obtain ⟨-, s, h⟩ := hb; exact h.many
  unfold Dk.pages
  clear hb hh
  go_enter Tryd.func48, Tryd.ntmps48
  go_wp2_with fail
  refine HS.out.mono ?_
  rintro e w' ⟨rfl, rfl⟩
  go_wp2_with fail
  go_ret
  exact ⟨rfl, rfl⟩
end Go.Proofs.YtonjapphhbhcpaaDoor
namespace Go.Proofs.YtonjapphhbhcpaaDoor
open Go.RowKit
set_option maxRecDepth 100000

theorem disk_TB {cur : Array Value} {fr : Nat × Nat} : ¬ TB (.cells cur 93 fr) := by
  show ¬ ((93 : Nat) = 78 ∨ (93 : Nat) = 95)
  decide
theorem wrap_lo {k : Nat} (h : k < 8) : IntKind.i64.wrap ((k : Int) * 512) = ((512 * k : Nat) : Int) := by
  rw [IntWalk.i64_in _ (by omega)]
  omega
theorem wrap_hi {k : Nat} (h : k < 8) : IntKind.i64.wrap (IntKind.i64.wrap ((k : Int) + 1) * 512) = ((512 * k + 512 : Nat) : Int) := by
  rw [IntWalk.i64_in ((k : Int) + 1) (by omega), IntWalk.i64_in _ (by omega)]
  omega
set_option maxHeartbeats 4000000 in
theorem pw_any {W : World} (P : P12 W) (h g : Nat) (number kind : Int) (la : Option Addr) (n c : Nat) (l : List Int) (w : World) (B : Base) (N : Nat) (d : Dk) (hW : Below W.heap.size W w) (h1 : okInt number) (h2 : okInt kind)
    (hh : w.heap[h]? = some (.cells #[.pointer (some ⟨g, 0, none⟩)] 93)) (hb : BoxAt w B g d N) (hin : InB w la l) (hB : isB l) (hn : l.length = n) (hc : n ≤ c) (hcm : c ≤ maxLen) (hnil : la = none → c = 0 ∧ l = []) (hN : N + 8 ≤ 1099511627776) (hX : ∀ y, B.off = some y → y < w.heap.size) :
    Calls Tryd.prog 49 #[.pointer (some ⟨h, 0, none⟩), .int .i64 number, .int .i64 kind, .slice la n c] w fun e w' => e = .returned (errV (d.pwr number kind l).1) ∧ BoxAt w' B g (d.pwr number kind l).2 (N + 8) ∧ Turns TB B.lo w w' := by
  have HM := Lib.hid (P.make number kind la n c l w hW h1 h2 hin hB hn hc hcm hnil)
  have HA := Lib.hid (And.intro hb hh)
  have hBw : B.lo ≤ w.heap.size := Nat.le_of_lt (Nat.lt_of_le_of_lt hb.lt.1 hb.lt.2)
  have hmany : d.many ≤ 9223372036854775807 := by obtain ⟨-, s, h⟩ := hb; exact h.many
  unfold okInt at h1 h2
  have HO := Lib.hid (fun (h : makeE number kind l.length = 0) => okG_yes (okG_of h))
  have HL := Lib.hid hB
  have HXO := Lib.hid hX
  clear hX
  clear hb hh hin hB hnil hn P hW hcm hc
  go_enter Tryd.func49, Tryd.ntmps49
  go_wp2_with fail
  refine HM.out.mono ?_
  rintro e w1 ⟨v, rfl, ho, hb1⟩
  have B1 := Lib.hid hb1
  have HA1 := Lib.hid (And.intro (HA.out.1.then_ hb1) ((hb1.block _ (lt_of_block HA.out.2)).trans HA.out.2))
  by_cases e0 : makeE number kind l.length = 0
  · obtain ⟨a1, a2, a3, a4, a5⟩ := HO.out e0
    have hpl : makeL number kind l = pageL number kind l := by unfold makeL; rw [if_pos (okG_of e0)]
    rw [hpl] at ho
    have hlen : (pageL number kind l).length = 4096 := pageL_len a5
    obtain ⟨gb, cb, rfl, hcb⟩ := ho.form (by omega)
    have HX : Hid (d.pwr number kind l = if number < d.pages then wrs number (pageL number kind l) 8 0 d else (1, d)) := Lib.hid (by unfold Dk.pwr; rw [if_pos e0])
    rw [e0]
    have HPB := Lib.hid (pageL_byte (number := number) (kind := kind) HL.out)
    rw [hlen] at hcb
    generalize pageL number kind l = bs at ho hlen HX HPB ⊢
    rw [hlen]
    have HB := Lib.hid (And.intro ho hlen)
    have HPG := Lib.hid (pages_any h g w1 B N d (row_cells HA1.out.2 0) HA1.out.1)
    have hpg : d.pages = (d.many : Int) / 8 := rfl
    clear ho hlen hb1 HM HA HO hpl e0
    go_wp2_with fail
    refine HPG.out.mono ?_
    rintro e w' ⟨rfl, rfl⟩
    by_cases hp : number < d.pages
    · have HX2 := Lib.hid (HX.out.trans (if_pos hp))
      have hn60 : number ≤ 1152921504606846975 := by omega
      go_wp2_with fail
      go_loopw [11, 12, 29] (fun _ _ i wr => ∃ (k : Nat) (dk : Dk), k ≤ 8 ∧ i = .int .i64 (k : Int) ∧ Hid (wrs number bs 8 0 d = wrs number bs (8 - k) k dk ∧ BoxAt wr B g dk (N + k) ∧ Turns TB B.lo w1 wr)) (fun _ _ i _ => 8 - (intOf i).toNat)
      case atStart => exact ⟨0, d, by omega, rfl, rfl, HA1.out.1, Turns.refl _ _ _⟩
      case round =>
        obtain ⟨k, dk, hk, rfl, HK⟩ := hrel
        replace HK := Lib.hid HK
        by_cases hlt : k < 8
        · have HDR : Hid (Below wr.heap.size wr wr.drew) := Lib.hid (Below.refl _ wr).drew
          have HOB := Lib.hid (((HB.out.1.turns (by rw [HB.out.2]; omega) HK.out.2.2 (fun cur => TB_byte cur (0, 0))).then_ HDR.out).inB)
          have HH := Lib.hid ((HDR.out.block _ (lt_of_block (HK.out.2.2.block _ _ HA1.out.2 disk_TB))).trans (HK.out.2.2.block _ _ HA1.out.2 disk_TB))
          have HS := Lib.hid (sectorP_any number k wr.drew a1 hn60 (by omega) (by omega))
          have hin := (InB.from HOB.out (512 * k)).take_ 512
          rw [Nat.zero_add] at hin
          have HWR := Lib.hid (dwrite_any h g (number * 8 + k) (some ⟨gb, 512 * k, none⟩) 512 (cb - 512 * k) (rowK bs k) wr.drew B (N + k) dk (by unfold okInt; omega) HH.out (HK.out.2.1.then_ HDR.out) hin ((HPB.out.drop _).take' _) (rowK_len HB.out.2 hlt) (by omega) (fun y e => Nat.lt_of_lt_of_le (HXO.out y e) (Nat.le_trans B1.out.size HK.out.2.2.size)))
          clear hin
          obtain ⟨lo, hlo⟩ : ∃ lo, lo = 512 * k := ⟨_, rfl⟩
          obtain ⟨hi, hhi⟩ : ∃ hi, hi = 512 * k + 512 := ⟨_, rfl⟩
          have e1 : IntKind.i64.wrap ((k : Int) * 512) = (lo : Int) := by rw [hlo]; exact wrap_lo hlt
          have e2 : IntKind.i64.wrap (IntKind.i64.wrap ((k : Int) + 1) * 512) = (hi : Int) := by rw [hhi]; exact wrap_hi hlt
          have q1 : lo ≤ hi := by omega
          have q2 : hi ≤ cb := by omega
          have q3 : ¬ cb = lo := by omega
          have q4 : hi - lo = 512 := by omega
          rw [← hlo] at HWR
          clear hlo hhi
          obtain ⟨er, her⟩ : ∃ er, er = dk.writeE (number * 8 + k) (rowK bs k) := ⟨_, rfl⟩
          obtain ⟨d2, hd2⟩ : ∃ d2, d2 = dk.write (number * 8 + k) (rowK bs k) := ⟨_, rfl⟩
          rw [← her, ← hd2] at HWR
          have HER := Lib.hid (And.intro her hd2)
          clear her hd2
          go_wp2_with fail
          go_region_law (first
            | (refine step_call (o := { dst := some 35, op := _, type := _, pos := _, after := _, guard := none }) rfl 72 #[.int .i64 number, .int .i64 (k : Int)] (by go_simp) (HS.out.mono ?_); rintro e w' ⟨rfl, rfl⟩; refine ⟨_, rfl, ?_⟩)
            | (refine step_call (o := { dst := some 43, op := _, type := _, pos := _, after := _, guard := none }) rfl 71 #[.pointer (some ⟨h, 0, none⟩), .int .i64 (number * 8 + k), .slice (some ⟨gb, lo, none⟩) 512 (cb - lo)] (by go_simp) (HWR.out.mono ?_); rintro e w2 ⟨rfl, hbx, htu⟩; have HW2 := Lib.hid (And.intro hbx htu); clear hbx htu; refine ⟨_, rfl, ?_⟩))
          have HK2 := Lib.hid (show BoxAt w2 B g d2 (N + (k + 1)) ∧ Turns TB B.lo w1 w2 from ⟨HW2.out.1, HK.out.2.2.trans ((Turns.of_below (Nat.le_trans hBw (Nat.le_trans B1.out.size HK.out.2.2.size)) HDR.out).trans HW2.out.2)⟩)
          have h87 : 8 - k = (8 - (k + 1)) + 1 := by omega
          by_cases he : er = 0
          · subst he
            rw [errV_zero]
            have HG := Lib.hid (HK.out.1.trans (by rw [h87, wrs_good HER.out.1.symm, ← HER.out.2]))
            clear h87
            go_wp2_with fail
            go_roundw
            case rel => exact ⟨k + 1, d2, by omega, by go_num, HG.out, HK2.out.1, HK2.out.2⟩
            case measure => simp [intOf]; omega
          · rw [errV_mk he]
            have HG := Lib.hid (HX2.out.trans (HK.out.1.trans (by rw [h87, wrs_bad (by rw [← HER.out.1]; exact he), ← HER.out.1, ← HER.out.2] : wrs number bs (8 - k) k dk = (er, d2))))
            have HEM := Lib.hid (errV_mk he)
            clear h87
            go_wp2_with fail
            go_ret
            refine ⟨by rw [HG.out, HEM.out]; rfl, by rw [HG.out]; exact HK2.out.1.more (by omega), (Turns.of_below hBw B1.out).trans HK2.out.2⟩
        · have hk8 : k = 8 := by omega
          subst hk8
          have HF : Hid (d.pwr number kind l = (0, dk)) := Lib.hid (HX2.out.trans HK.out.1)
          go_wp2_with fail
          go_ret
          refine ⟨by rw [HF.out]; rfl, by rw [HF.out]; exact HK.out.2.1, (Turns.of_below hBw B1.out).trans HK.out.2.2⟩
    · have HX2 := Lib.hid (HX.out.trans (if_neg hp))
      have hp2 : d.pages ≤ number := by omega
      go_wp2_with fail
      go_ret
      refine ⟨by rw [HX2.out]; rfl, ?_, Turns.of_below hBw B1.out⟩
      rw [HX2.out]
      exact HA1.out.1.more (by omega)
  · have HX : Hid (d.pwr number kind l = (makeE number kind l.length, d)) := Lib.hid (by unfold Dk.pwr; rw [if_neg e0])
    have q0 : (makeE number kind l.length != 0) = true := by simp [e0]
    have HE := Lib.hid (errV_mk e0)
    generalize makeE number kind l.length = en at *
    clear ho hb1
    go_wp2_with fail
    go_ret
    refine ⟨by rw [HX.out, HE.out]; rfl, ?_, Turns.of_below hBw B1.out⟩
    rw [HX.out]
    exact HA1.out.1.more (by omega)
end Go.Proofs.YtonjapphhbhcpaaDoor
namespace Go.Proofs.YtonjapphhbhcpaaDoor
open Go.RowKit
set_option maxRecDepth 100000

/-- What a page's reading tells. -/
def PrTo (d : Dk) (number : Int) (w : World) (e : Ending) (w' : World) : Prop := ∃ v, e = .returned (.tuple #[.int .i64 (d.prK number), v, errV (d.prE number)]) ∧ OwnB w' w.heap.size v (d.prL number) ∧ Below w.heap.size w w'
theorem PrTo.bad {d : Dk} {number : Int} {w w' : World} {n : Int} (h : d.prE number = n) (hn : n ≠ 0) (hb : Below w.heap.size w w') : PrTo d number w (.returned (.tuple #[.int .i64 0, .slice none 0 0, .iface 26 (.int .i64 n)])) w' := by
  have h0 : d.prE number ≠ 0 := by rw [h]; exact hn
  exact ⟨_, by unfold Dk.prK; rw [if_neg h0, h, errV_mk hn], by unfold Dk.prL; rw [if_neg h0]; exact OwnB.nil _ _, hb⟩
/-- Every byte of a disk is a byte. -/
def Dk.byte (d : Dk) : Prop := ∀ k, isB (d.look k)
theorem preB_byte {d : Dk} (h : d.byte) (number : Nat) : ∀ k, isB (preB d number k)
  | 0 => isB.nil
  | k + 1 => (preB_byte h number k).append2 (h _)
theorem pre_step {d : Dk} (h : d.ok) (m : Nat) {k : Nat} (hk : k < 8) : spl (preB d m k ++ zB (4096 - 512 * k)) (k * 512) (d.look (m * 8 + k)) = preB d m (k + 1) ++ zB (4096 - 512 * (k + 1)) := by
  have hl := h.look_len (m * 8 + k)
  have e : zB (4096 - 512 * k) = zB 512 ++ zB (4096 - 512 * (k + 1)) := by rw [← zB_add]; congr 1; omega
  rw [e, spl_mid (by rw [zB_len, hl]) (by rw [preB_len h]; omega)]
  show _ = (preB d m k ++ d.look (m * 8 + k)) ++ _
  rw [List.append_assoc]
end Go.Proofs.YtonjapphhbhcpaaDoor
